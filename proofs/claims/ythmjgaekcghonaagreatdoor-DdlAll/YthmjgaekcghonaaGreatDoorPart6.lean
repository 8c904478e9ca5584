/-
  Texts that the proof needs, one behind the other: DdlAddC, SchFewC, DdlOpen2, DdlSize, DdlFillC, DdlInsC, DdlIns2C, DdlCreateC.
-/
import Derived.SizedLaws
import Derived.Shelf.Spec.SlicesInsertGrow
import Derived.Test.YthmjgaekcghonaaGreatDoorPart1
import Derived.Test.YthmjgaekcghonaaGreatDoorPart2
import Derived.Test.YthmjgaekcghonaaGreatDoorPart3
import Derived.Test.YthmjgaekcghonaaGreatDoorPart4
import Derived.Test.YthmjgaekcghonaaGreatDoorPart5

/-
  Contracts of package ddl's rename and add.
-/
namespace Go.Proofs.YthmjgaekcghonaaGreatDoor
open Go.RowKit

/-- a change in its box -/
theorem box_ddl (w : World) (d : Db) : ∃ w0, w.alloc (.cells #[.int .i64 d.p.op, .string d.p.tb, .string d.p.co, .string d.p.to, .string d.p.key, .int .i64 d.p.tk, .int .i64 d.p.tm, .bool d.p.nl, .int .i64 d.p.dk, .int .i64 d.p.dn, .string d.p.ds, .slice d.A d.p.cols.length d.cap] 31) = w0 ∧ Below w.heap.size w w0 ∧ BlkN w0 w.heap.size (fD d) ∧ w0.heap.size = w.heap.size + 1 :=
  ⟨_, rfl, below_one w _, BlkN.new w _ (fD d) _ rfl, by simp⟩
theorem BlkN.ddl {w : World} {b : Nat} {d : Db} (h : BlkN w b (fD d)) : w.cell? ⟨b, 0, none⟩ = some (.int .i64 d.p.op) ∧ w.cell? ⟨b, 1, none⟩ = some (.string d.p.tb) ∧ w.cell? ⟨b, 2, none⟩ = some (.string d.p.co) ∧ w.cell? ⟨b, 3, none⟩ = some (.string d.p.to) ∧ w.cell? ⟨b, 4, none⟩ = some (.string d.p.key) ∧
    w.cell? ⟨b, 5, none⟩ = some (.int .i64 d.p.tk) ∧ w.cell? ⟨b, 6, none⟩ = some (.int .i64 d.p.tm) ∧ w.cell? ⟨b, 7, none⟩ = some (.bool d.p.nl) ∧ w.cell? ⟨b, 8, none⟩ = some (.int .i64 d.p.dk) ∧ w.cell? ⟨b, 9, none⟩ = some (.int .i64 d.p.dn) ∧ w.cell? ⟨b, 10, none⟩ = some (.string d.p.ds) ∧ w.cell? ⟨b, 11, none⟩ = some (.slice d.A d.p.cols.length d.cap) :=
  ⟨h 0 _ rfl, h 1 _ rfl, h 2 _ rfl, h 3 _ rfl, h 4 _ rfl, h 5 _ rfl, h 6 _ rfl, h 7 _ rfl, h 8 _ rfl, h 9 _ rfl, h 10 _ rfl, h 11 _ rfl⟩
/-- why a table may not be called otherwise -/
def renE (l : List Tb) (s : ByteArray) : Int := if rightN (bs s) = true then (if (l.findIdx? fun x => eqS x.nm s).isSome = true then 14 else 0) else 8
set_option maxRecDepth 100000 in
set_option maxHeartbeats 4000000 in
theorem rename_any (bx g cap k : Nat) (l : List Tb) (t : Tb) (s : ByteArray) (w : World) (B : Nat) (hO : OwnTb w B (.slice (some ⟨g, 0, none⟩) l.length cap) l) (hA : TabsAt w w.heap.size (some ⟨g, 0, none⟩) l) (hk : l[k]? = some t)
    (hbx : w.cell? ⟨bx, 0, none⟩ = some (.slice (some ⟨g, 0, none⟩) l.length cap)) (hl : l.length ≤ 1000000) (hs : s.size ≤ 1000000) :
    Calls Tryz.prog 42 #[.pointer (some ⟨bx, 0, none⟩), .int .i64 (k : Int), .string s] w fun e w' => e = .returned (.int .i64 (renE l s)) ∧ (renE l s ≠ 0 → Below w.heap.size w w') ∧
      (renE l s = 0 → Off (fun x => x = g) w w' ∧ OwnTb w' B (.slice (some ⟨g, 0, none⟩) l.length cap) (l.set k { t with nm := s })) := by
  have HO := Lib.hid hO; clear hO
  have Hk := Lib.hid hk
  have hkl := (List.getElem?_eq_some_iff.1 hk).1
  clear hk
  have Hbx := Lib.hid hbx
  have HN := Lib.hid (nright_any s w hs)
  have HH := Lib.hid (hastab_any (some ⟨g, 0, none⟩) cap l s w hA hl)
  clear hA
  have Hv : Hid (renE l s = if rightN (bs s) = true then (if (l.findIdx? fun x => eqS x.nm s).isSome = true then 14 else 0) else 8) := rfl
  generalize renE l s = E at Hv ⊢
  generalize rightN (bs s) = b1 at HN Hv
  generalize (l.findIdx? fun x => eqS x.nm s).isSome = b2 at HH Hv
  cases b1
  · have He : Hid (E = 8) := Hv.out
    go_enter Tryz.func42, Tryz.ntmps42
    go_wp2_with fail
    refine HN.out.mono ?_
    rintro e w1 ⟨rfl, rfl⟩
    go_wp2_with fail
    go_ret
    exact ⟨by rw [He.out]; rfl, fun _ => Below.refl _ _, fun h => by rw [He.out] at h; cases h⟩
  cases b2
  case true =>
    have He : Hid (E = 14) := Hv.out
    go_enter Tryz.func42, Tryz.ntmps42
    go_wp2_with fail
    refine HN.out.mono ?_
    rintro e w1 ⟨rfl, rfl⟩
    go_wp2_with fail
    refine HH.out.mono ?_
    rintro e w2 ⟨rfl, hb2⟩
    have Hb2 := Lib.hid hb2; clear hb2
    go_wp2_with fail
    go_ret
    exact ⟨by rw [He.out]; rfl, fun _ => Hb2.out, fun h => by rw [He.out] at h; cases h⟩
  have He : Hid (E = 0) := Hv.out
  have hk0 : (0 : Int) ≤ (k : Int) := by omega
  have hkI : (k : Int) < (l.length : Int) := by omega
  go_enter Tryz.func42, Tryz.ntmps42
  go_wp2_with fail
  refine HN.out.mono ?_
  rintro e w1 ⟨rfl, rfl⟩
  go_wp2_with fail
  refine HH.out.mono ?_
  rintro e w2 ⟨rfl, hb2⟩
  have c0 := (hb2.cell (p := ⟨bx, 0, none⟩) (World.block_lt_of_cell? w _ Hbx.out)).trans Hbx.out
  have Hb2 := Lib.hid hb2; clear hb2 hbx
  have HO2 := Lib.hid (HO.out.below Hb2.out)
  obtain ⟨_, d1, _, _, _⟩ := tab_cells HO2.out Hk.out
  have f1 := HO2.out.frozen (k * 5 + 1)
  have HE := Lib.hid (HO2.out.set1 lenT (k := k) (i := 1) (x := t) (y := { t with nm := s }) (u := .string s) Hk.out (by omega) rfl)
  have HoE := Lib.hid (Off.behind Hb2.out (Off.set w2 g (k * 5 + 1) (.string s)))
  go_wp2_with fail
  go_ret
  exact ⟨by rw [He.out]; rfl, fun h => absurd He.out h, fun _ => ⟨HoE.out, HE.out⟩⟩
/-- the column of a change -/
def Dp.col (d : Dp) : Cb := ⟨0, d.co, d.tk, d.tm, d.nl, d.dk, d.dn, d.ds⟩
theorem addE_acol {t : Tb} {d : Dp} (h1 : t.cols.length ≤ 10) (h2 : t.nx ≤ 200) (h3 : ¬ (t.cols.length = 10 ∨ t.nx = 200)) :
    addE t.p d = if acolE t.cols d.col = 0 then (if d.nl = false ∧ nulV d.dk d.dn d.ds = true then 11 else 0) else acolE t.cols d.col := by
  unfold addE acolE
  rw [if_neg (show ¬ (10 ≤ t.p.cols.length ∨ 200 ≤ t.p.nx) by show ¬ (10 ≤ t.cols.length ∨ 200 ≤ t.nx); omega)]
  show (if rightN (bs d.co) = true then (if (colP t.cols d.co).isSome = true then 14 else if rightT d.tk d.tm = true then (if presetD d.tk d.tm d.dk d.dn d.ds = true then (if d.nl = false ∧ nulV d.dk d.dn d.ds = true then 11 else 0) else 10) else 9) else 8) =
    if (if rightN (bs d.co) = true then (if (colP t.cols d.co).isSome = true then 14 else if rightT d.tk d.tm = true then (if presetD d.tk d.tm d.dk d.dn d.ds = true then 0 else 10) else 9) else 8) = (0 : Int) then _ else (if rightN (bs d.co) = true then (if (colP t.cols d.co).isSome = true then 14 else if rightT d.tk d.tm = true then (if presetD d.tk d.tm d.dk d.dn d.ds = true then 0 else 10) else 9) else 8)
  cases rightN (bs d.co) <;> cases (colP t.cols d.co).isSome <;> cases rightT d.tk d.tm <;> cases presetD d.tk d.tm d.dk d.dn d.ds <;> rfl
set_option maxRecDepth 100000 in
set_option maxHeartbeats 4000000 in
theorem add_any (g cap k : Nat) (l : List Tb) (t : Tb) (d : Db) (w : World) (B Bc : Nat) (ht : UTab w) (hO : OwnTb w B (.slice (some ⟨g, 0, none⟩) l.length cap) l) (hk : l[k]? = some t)
    (hC : OwnC w Bc (.slice t.A t.cols.length t.cap) t.cols) (hgB : g < Bc) (hBw : Bc ≤ w.heap.size) (hl : t.cols.length ≤ 10) (hc : d.p.co.size ≤ 1000000) (hn0 : 0 ≤ t.nx) (hn1 : t.nx ≤ 200) :
    Calls Tryz.prog 43 #[.pointer (some ⟨g, k * 5, none⟩), DV d] w fun e w' => e = .returned (.int .i64 (addE t.p d.p)) ∧ Off (fun x => x = g ∨ colBk t = some x) w w' ∧
      (addE t.p d.p = 0 → ∃ A' cap', OwnTb w' B (.slice (some ⟨g, 0, none⟩) l.length cap) (l.set k (t.more A' cap' d.p.col)) ∧ OwnC w' Bc (.slice A' (t.cols.length + 1) cap') (t.cols ++ [{ d.p.col with id := t.nx }])) := by
  obtain ⟨w0, hw0, hb0, hX, hs0⟩ := box_ddl w d
  have Hw0 := Lib.hid hw0; clear hw0
  have Hb0 := Lib.hid hb0
  obtain ⟨_, _, _, e3, e4⟩ := tab_cells hO hk
  have d3 := fun o => keep_alloc e3 o
  have d4 := fun o => keep_alloc e4 o
  clear e3 e4
  have HO0 := Lib.hid (hO.below hb0); clear hO
  have HC0 := Lib.hid (hC.below hb0); clear hC
  have HT := Lib.hid (ht.below hb0 (Nat.le_refl _)); clear ht hb0
  have HX := Lib.hid hX
  have Hs0 := Lib.hid hs0; clear hs0
  have Hk := Lib.hid hk; clear hk
  have hgw : g < w.heap.size := by omega
  obtain ⟨x0, x1, x2, x3, x4, x5, x6, x7, x8, x9, x10, x11⟩ := hX.ddl
  clear hX x0 x1 x2 x3 x4 x5 x6 x7 x8 x9 x10 x11
  by_cases h10 : t.cols.length = 10
  · have He : Hid (addE t.p d.p = 3) := by show _ = _; unfold addE; rw [if_pos (show 10 ≤ t.p.cols.length ∨ 200 ≤ t.p.nx by show 10 ≤ t.cols.length ∨ 200 ≤ t.nx; omega)]
    generalize addE t.p d.p = E at He ⊢
    have hq : ((t.cols.length : Int) == 10) = true := by simp; omega
    clear h10 hl
    go_enter Tryz.func43, Tryz.ntmps43
    go_wp2_with fail
    rw [Hw0.out]
    go_ret
    exact ⟨by rw [He.out]; rfl, .of_below Hb0.out, fun h => by rw [He.out] at h; cases h⟩
  have hq : ((t.cols.length : Int) == 10) = false := by simp; omega
  by_cases h200 : t.nx = 200
  · have He : Hid (addE t.p d.p = 3) := by show _ = _; unfold addE; rw [if_pos (show 10 ≤ t.p.cols.length ∨ 200 ≤ t.p.nx by show 10 ≤ t.cols.length ∨ 200 ≤ t.nx; omega)]
    generalize addE t.p d.p = E at He ⊢
    have hq2 : (t.nx == 200) = true := by simp; omega
    clear h10 hl h200
    go_enter Tryz.func43, Tryz.ntmps43
    go_wp2_with fail
    rw [Hw0.out]
    go_ret
    exact ⟨by rw [He.out]; rfl, .of_below Hb0.out, fun h => by rw [He.out] at h; cases h⟩
  have hq2 : (t.nx == 200) = false := by simp; omega
  obtain ⟨w1, hw1, hb1, hY, hs1⟩ := box_colO w0 d.p.col
  have Hw1 := Lib.hid hw1; clear hw1
  have Hb1 := Lib.hid hb1
  rw [Hs0.out] at hY
  have HY := Lib.hid hY; clear hY
  have Hs1 := Lib.hid hs1; clear hs1
  have HA := Lib.hid (acol_any g cap k l t d.p.col w1 B Bc (HT.out.below hb1 (Nat.le_refl _)) (HO0.out.below hb1) Hk.out (HC0.out.below hb1) hgB (Nat.le_trans hBw (Nat.le_trans Hb0.out.size hb1.size)) (by omega) hc hn0 (by omega))
  clear hb1
  rw [← Hw1.out, ← Hw0.out] at HA
  have He := Lib.hid (addE_acol (d := d.p) hl hn1 (by omega))
  generalize addE t.p d.p = E at He ⊢
  generalize acolE t.cols d.p.col = F at HA He
  unfold Dp.col at HA
  have Hcb := Lib.hid (fun x (hx : colBk t = some x) => (HC0.out.lt x hx).2)
  clear h10 h200 hl
  have HN := Lib.hid (fun w => dnull_any d.p.dk d.p.dn d.p.ds w)
  by_cases hF : F = 0
  · subst hF
    rw [if_pos rfl] at He
    go_enter Tryz.func43, Tryz.ntmps43
    go_wp2_with fail
    refine HA.out.mono ?_
    rintro e w2 ⟨rfl, _, hok⟩
    obtain ⟨hof, A', cap', ho2, hc2⟩ := hok trivial
    rw [Hw0.out, show (w0.alloc (.cells #[.int .i64 0, .string d.p.co, .int .i64 d.p.tk, .int .i64 d.p.tm, .bool d.p.nl, .int .i64 d.p.dk, .int .i64 d.p.dn, .string d.p.ds] 63)) = w1 from Hw1.out] at hof
    have HY2 : Hid (OwnC w2 (w.heap.size + 1) (.slice (some ⟨w.heap.size + 1, 0, none⟩) 1 1) [d.p.col]) := OwnR.off HY.out hof (fun x hx e => by
      simp [Value.ownBlock] at hx
      rcases e with e | e
      · omega
      · have := Hcb.out x e; have := Hs0.out; omega)
    have Hof := Lib.hid ((Off.behind Hb0.out (Off.behind Hb1.out hof)))
    have HO2 := Lib.hid ho2
    have HC2 := Lib.hid hc2
    clear hok hof ho2 hc2
    obtain ⟨_, _, _, _, y4, y5, y6, y7⟩ := one_cells HY2.out
    cases hnl : d.p.nl
    · have y4' : w2.cell? ⟨w.heap.size + 1, 4, none⟩ = some (.bool false) := by rw [y4]; show some (Value.bool d.p.nl) = _; rw [hnl]
      rw [hnl] at He
      have Hn2 := Lib.hid (HN.out w2)
      have He2 : Hid (E = if nulV d.p.dk d.p.dn d.p.ds = true then 11 else 0) := by show _ = _; rw [He.out]; simp
      generalize nulV d.p.dk d.p.dn d.p.ds = nb at Hn2 He2
      clear y4 He
      cases nb
      · have He3 : Hid (E = 0) := He2.out
        go_wp2_with fail
        refine Hn2.out.mono ?_
        rintro e w3 ⟨rfl, hb3⟩
        have HoE := Lib.hid (Hof.out.then hb3)
        have HO3 := Lib.hid (HO2.out.below hb3)
        have HC3 := Lib.hid (HC2.out.below hb3); clear hb3
        go_wp2_with fail
        go_ret
        exact ⟨by rw [He3.out]; rfl, HoE.out, fun _ => ⟨A', cap', HO3.out, HC3.out⟩⟩
      · have He3 : Hid (E = 11) := He2.out
        go_wp2_with fail
        refine Hn2.out.mono ?_
        rintro e w3 ⟨rfl, hb3⟩
        have HoE := Lib.hid (Hof.out.then hb3); clear hb3
        go_wp2_with fail
        go_ret
        exact ⟨by rw [He3.out]; rfl, HoE.out, fun h => by rw [He3.out] at h; cases h⟩
    · have y4' : w2.cell? ⟨w.heap.size + 1, 4, none⟩ = some (.bool true) := by rw [y4]; show some (Value.bool d.p.nl) = _; rw [hnl]
      rw [hnl] at He
      have He3 : Hid (E = 0) := by show _ = _; rw [He.out]; simp
      clear y4 He
      go_wp2_with fail
      go_ret
      exact ⟨by rw [He3.out]; rfl, Hof.out, fun _ => ⟨A', cap', HO2.out, HC2.out⟩⟩
  · rw [if_neg hF] at He
    have hz0 : (F == 0) = false := by simpa using hF
    have hz1 : (F != 0) = true := by rw [bne, hz0]; rfl
    have HF := Lib.hid hF
    clear hF
    go_enter Tryz.func43, Tryz.ntmps43
    go_wp2_with fail
    refine HA.out.mono ?_
    rintro e w2 ⟨rfl, hbad, _⟩
    have hb2 := hbad HF.out
    rw [Hw0.out, show (w0.alloc (.cells #[.int .i64 0, .string d.p.co, .int .i64 d.p.tk, .int .i64 d.p.tm, .bool d.p.nl, .int .i64 d.p.dk, .int .i64 d.p.dn, .string d.p.ds] 63)) = w1 from Hw1.out] at hb2
    have Hb2 := Lib.hid (bthen (bthen Hb0.out Hb1.out) hb2)
    clear hb2 hbad
    go_wp2_with fail
    go_ret
    exact ⟨by rw [He.out]; rfl, .of_below Hb2.out, fun h => absurd (He.out.symm.trans h) HF.out⟩
end Go.Proofs.YthmjgaekcghonaaGreatDoor

/-
  Contracts of the law's own short, Few, FewAll, FewValues, FewFields and found of layer 8.
-/
namespace Go.Proofs.YthmjgaekcghonaaGreatDoor
open Go.RowKit

def shortB (s : ByteArray) : Bool := decide ((s.size : Int) ≤ 200)
theorem short8_any (s : ByteArray) (w : World) : Calls Tryz.prog 29 #[.string s] w fun e w' => e = .returned (.bool (shortB s)) ∧ w = w' := by
  go_enter Tryz.func29, Tryz.ntmps29
  go_wp2_with fail
  go_ret
  exact ⟨rfl, rfl⟩
def fewT (t : Tb) : Bool := decide ((t.cols.length : Int) ≤ 20) && (shortB t.nm && t.cols.all fun c => shortB c.nm && shortB c.ds)
def fewCat (l : List Tb) : Bool := decide ((l.length : Int) ≤ 10) && l.all fewT
def fewV (l : List Vb) : Bool := decide ((l.length : Int) ≤ 20) && l.all fun v => shortB v.2.2
def fewF (l : List Fb) : Bool := decide ((l.length : Int) ≤ 20) && l.all fun f => shortB f.nm && shortB f.s
theorem all_stop8 {α : Type} {p : α → Bool} {l : List α} {k : Nat} {x : α} (hx : l[k]? = some x) (h : p x = false) : l.all p = false := by
  cases e : l.all p with
  | false => rfl
  | true =>
    rw [List.all_eq_true] at e
    have := e x (List.mem_of_getElem? hx)
    rw [h] at this; cases this
theorem shortB_iff {s : ByteArray} : shortB s = true ↔ s.size ≤ 200 := by unfold shortB; rw [decide_eq_true_iff]; omega
theorem WfT_of {w : World} {t : Tb} (h : fewT t = true) (hi : InT w t) : WfT t := by
  unfold fewT at h
  simp only [Bool.and_eq_true, decide_eq_true_eq, List.all_eq_true, shortB_iff] at h
  obtain ⟨_, _, _, _, _, h6, _, h8⟩ := hi
  refine ⟨by omega, by omega, h6, fun c hc => ?_⟩
  have := h.2.2 c hc
  have hr := wf64 (h8 c hc).2.2.2.2.2.1
  exact ⟨by omega, hr.1, hr.2⟩

set_option maxRecDepth 100000 in
set_option maxHeartbeats 1600000 in
theorem few8_any (t : Tb) (w : World) (hA : TabAt w w.heap.size t) (hl : t.cols.length ≤ maxLen) :
    Calls Tryz.prog 16 #[TV t] w fun e w' => e = .returned (.bool (fewT t)) ∧ Below w.heap.size w w' := by
  unfold maxLen at hl
  obtain ⟨w0, hw0, hb0, hB, hs0⟩ := box_tab w t
  have Hw0 := Lib.hid hw0; clear hw0
  have Hb0 := Lib.hid hb0
  have HA := Lib.hid (RowAt.to hA hb0); clear hA hb0
  have HB := Lib.hid hB; clear hB
  have Hs0 := Lib.hid hs0; clear hs0
  have HN := Lib.hid (fun w => short8_any t.nm w)
  have Hv : Hid (fewT t = (decide ((t.cols.length : Int) ≤ 20) && (shortB t.nm && t.cols.all fun c => shortB c.nm && shortB c.ds))) := rfl
  have e1 : decide (20 < (t.cols.length : Int)) = !decide ((t.cols.length : Int) ≤ 20) := by apply bool_eq; simp
  generalize decide ((t.cols.length : Int) ≤ 20) = b1 at Hv e1
  generalize shortB t.nm = b2 at Hv HN
  cases b1
  · replace e1 : decide (20 < (t.cols.length : Int)) = true := e1
    go_enter Tryz.func16, Tryz.ntmps16
    go_wp2_with fail
    go_ret
    exact ⟨by rw [Hv.out]; rfl, by go_grown⟩
  replace e1 : decide (20 < (t.cols.length : Int)) = false := e1
  cases b2
  · go_enter Tryz.func16, Tryz.ntmps16
    go_wp2_with fail
    refine (HN.out _).mono ?_
    rintro e w1 ⟨rfl, rfl⟩
    go_wp2_with fail
    go_ret
    exact ⟨by rw [Hv.out]; rfl, by go_grown⟩
  replace Hv : Hid (fewT t = t.cols.all fun c => shortB c.nm && shortB c.ds) := by show _ = _; rw [Hv.out]; simp
  go_enter Tryz.func16, Tryz.ntmps16
  go_wp2_with fail
  refine (HN.out _).mono ?_
  rintro e w1 ⟨rfl, rfl⟩
  go_wp2_with fail
  rw [Hw0.out]
  clear e1 HN
  obtain ⟨c0, c1, c2, c3, c4⟩ := HB.out.tab
  have Hc4 := Lib.hid c4; clear c0 c1 c2 c3 c4
  go_loop [3] (fun i => ∃ k : Nat, k ≤ t.cols.length ∧ i = .int .i64 k ∧ Hid (∀ j c, t.cols[j]? = some c → j < k → (shortB c.nm && shortB c.ds) = true)) (fun i => t.cols.length - (intOf i).toNat)
  case atStart => exact ⟨0, by omega, rfl, fun j v _ h => absurd h (by omega)⟩
  case round =>
    obtain ⟨k, hk, rfl, hall⟩ := hrel
    by_cases hlt : k < t.cols.length
    · obtain ⟨x, hx⟩ : ∃ x, t.cols[k]? = some x := ⟨t.cols[k], by simp [hlt]⟩
      have Hx := Lib.hid hx
      obtain ⟨b, off, hAe, hbB, d0, d1, d2, d3, d4, d5, d6, d7⟩ := ColsAt.get HA.out k x hx
      have c4 : w0.cell? ⟨w.heap.size, 4, none⟩ = some (.slice (some ⟨b, off, none⟩) t.cols.length t.cap) := by rw [← hAe]; exact Hc4.out
      clear hAe hx
      have HN1 := Lib.hid (fun w => short8_any x.nm w)
      have HN2 := Lib.hid (fun w => short8_any x.ds w)
      cases h1 : shortB x.nm
      · have Hno : Hid ((t.cols.all fun c => shortB c.nm && shortB c.ds) = false) := all_stop8 Hx.out (by rw [h1]; rfl)
        rw [h1] at HN1
        go_wp2_with fail
        refine (HN1.out _).mono ?_
        rintro e w1 ⟨rfl, rfl⟩
        go_wp2_with fail
        go_ret
        exact ⟨by rw [Hv.out, Hno.out]; rfl, Hb0.out⟩
      · rw [h1] at HN1
        cases h2 : shortB x.ds
        · have Hno : Hid ((t.cols.all fun c => shortB c.nm && shortB c.ds) = false) := all_stop8 Hx.out (by rw [h1, h2]; rfl)
          rw [h2] at HN2
          go_wp2_with fail
          refine (HN1.out _).mono ?_
          rintro e w1 ⟨rfl, rfl⟩
          go_wp2_with fail
          refine (HN2.out _).mono ?_
          rintro e w1 ⟨rfl, rfl⟩
          go_wp2_with fail
          go_ret
          exact ⟨by rw [Hv.out, Hno.out]; rfl, Hb0.out⟩
        · have Hall : Hid (∀ j c, t.cols[j]? = some c → j < k + 1 → (shortB c.nm && shortB c.ds) = true) := fun j y hj hk => by
            by_cases e : j = k
            · subst e
              rw [Hx.out] at hj
              cases hj
              rw [h1, h2]; rfl
            · exact hall.out j y hj (by omega)
          rw [h2] at HN2
          go_wp2_with fail
          refine (HN1.out _).mono ?_
          rintro e w1 ⟨rfl, rfl⟩
          go_wp2_with fail
          refine (HN2.out _).mono ?_
          rintro e w1 ⟨rfl, rfl⟩
          go_wp2_with fail
          go_round
          case rel => exact ⟨k + 1, by omega, by go_num, Hall.out⟩
          case measure => simp [intOf]; omega
    · have c4 := Hc4.out
      have Hyes : Hid ((t.cols.all fun c => shortB c.nm && shortB c.ds) = true) := all_at fun j x hj => hall.out j x hj (by have := (List.getElem?_eq_some_iff.1 hj).1; omega)
      go_wp2_with fail
      go_ret
      exact ⟨by rw [Hv.out, Hyes.out]; rfl, Hb0.out⟩

set_option maxRecDepth 100000 in
set_option maxHeartbeats 1600000 in
theorem fewcat_any (A : Option Addr) (cp : Nat) (l : List Tb) (w : World) (hA : TabsAt w w.heap.size A l) (hl : l.length ≤ maxLen) (hi : ∀ t ∈ l, t.cols.length ≤ maxLen) :
    Calls Tryz.prog 6 #[.agg #[.slice A l.length cp]] w fun e w' => e = .returned (.bool (fewCat l)) ∧ Below w.heap.size w w' := by
  unfold maxLen at hl
  obtain ⟨w0, hw0, hb0, hB, hs0⟩ := box_one w (.slice A l.length cp) 24
  have Hw0 := Lib.hid hw0; clear hw0
  have Hb0 := Lib.hid hb0
  have HA := Lib.hid (hA.to hb0); clear hA hb0
  have HB := Lib.hid hB.one; clear hB
  have Hs0 := Lib.hid hs0; clear hs0
  have HI := Lib.hid hi; clear hi
  have Hv : Hid (fewCat l = (decide ((l.length : Int) ≤ 10) && l.all fewT)) := rfl
  have e1 : decide (10 < (l.length : Int)) = !decide ((l.length : Int) ≤ 10) := by apply bool_eq; simp
  generalize decide ((l.length : Int) ≤ 10) = b1 at Hv e1
  cases b1
  · replace e1 : decide (10 < (l.length : Int)) = true := e1
    go_enter Tryz.func6, Tryz.ntmps6
    go_wp2_with fail
    go_ret
    exact ⟨by rw [Hv.out]; rfl, by go_grown⟩
  replace e1 : decide (10 < (l.length : Int)) = false := e1
  replace Hv : Hid (fewCat l = l.all fewT) := by show _ = _; rw [Hv.out]; simp
  go_enter Tryz.func6, Tryz.ntmps6
  go_wp2_with fail
  rw [Hw0.out]
  clear e1
  go_loopw [3] (fun i wr => ∃ k : Nat, k ≤ l.length ∧ i = .int .i64 k ∧ Hid (∀ j c, l[j]? = some c → j < k → fewT c = true) ∧ Hid (Below w0.heap.size w0 wr)) (fun i _ => l.length - (intOf i).toNat)
  case atStart => exact ⟨0, by omega, rfl, fun j v _ h => absurd h (by omega), Below.refl _ _⟩
  case round =>
    obtain ⟨k, hk, rfl, hall, hb⟩ := hrel
    have Hbw := Lib.hid (bthen Hb0.out hb.out)
    have c0 : wr.cell? ⟨w.heap.size, 0, none⟩ = some (.slice A l.length cp) := (hb.out.cell (by have := Hs0.out; simp; omega)).trans HB.out
    by_cases hlt : k < l.length
    · obtain ⟨x, hx⟩ : ∃ x, l[k]? = some x := ⟨l[k], by simp [hlt]⟩
      have Hx := Lib.hid hx
      obtain ⟨b, off, hAe, hbB, d0, d1, d2, d3, d4⟩ := (HA.out.below hb.out).get k x hx
      rw [hAe] at c0
      have HF := Lib.hid (few8_any x wr ((HA.out.to hb.out).2 x (List.mem_of_getElem? hx)) (HI.out x (List.mem_of_getElem? hx)))
      clear hAe hx
      cases hp : fewT x
      · have Hno : Hid (l.all fewT = false) := all_stop8 Hx.out hp
        rw [hp] at HF
        clear hp
        go_wp2_with fail
        refine HF.out.mono ?_
        rintro e w1 ⟨rfl, hb1⟩
        have Hb1 := Lib.hid (bthen Hbw.out hb1); clear hb1
        go_wp2_with fail
        go_ret
        exact ⟨by rw [Hv.out, Hno.out]; rfl, Hb1.out⟩
      · have Hall : Hid (∀ j c, l[j]? = some c → j < k + 1 → fewT c = true) := fun j y hj hk => by
          by_cases e : j = k
          · subst e
            rw [Hx.out] at hj
            cases hj
            exact hp
          · exact hall.out j y hj (by omega)
        rw [hp] at HF
        clear hp
        go_wp2_with fail
        refine HF.out.mono ?_
        rintro e w1 ⟨rfl, hb1⟩
        have Hb1 := Lib.hid (bthen hb.out hb1); clear hb1
        go_wp2_with fail
        go_roundw
        case rel => exact ⟨k + 1, by omega, by go_num, Hall.out, Hb1.out⟩
        case measure => simp [intOf]; omega
    · have Hyes : Hid (l.all fewT = true) := all_at fun j x hj => hall.out j x hj (by have := (List.getElem?_eq_some_iff.1 hj).1; omega)
      go_wp2_with fail
      go_ret
      exact ⟨by rw [Hv.out, Hyes.out]; rfl, Hbw.out⟩

end Go.Proofs.YthmjgaekcghonaaGreatDoor

/-
  Parameters of type []api.DDL, opened; law09's Few, FewAll.
-/
namespace Go.Proofs.YthmjgaekcghonaaGreatDoor
open Go.RowKit Go.WideShapes

set_option maxRecDepth 100000 in
theorem openDDLs {H : Type} {enc : TypeId × Value → H} {W : World} {a : Option Addr} {len cap : Nat} {d : DataW H} {p : List MemPlace} {sp : Nat → Bool}
    (h : DataW.Trod enc Tryz.prog W 0 sp true 42 (.slice a len cap) d p) : ∃ l : List Db, len = l.length ∧ DdlsIn W a cap l := by
  obtain ⟨fuel, hf⟩ := h
  simp only [Value.cells] at hf
  obtain ⟨a', len', cap', e, l, rfl, hl1, hlc, hl2, hl3⟩ := row_open Tryz.underlying42 q_ddl ddl_of (fun a => ⟨_, rfl⟩) hf
  cases e
  exact ⟨l, rfl, hl1, hlc, ⟨hl2, fun d hd => (hl3 d hd).2.2.2.2.2.2.2.2.2.2.2.2.1⟩, hl3⟩
/-- is a change tried? -/
def fewD (d : Dp) : Bool := decide ((d.tb.size : Int) + d.co.size + d.to.size + d.key.size + d.ds.size ≤ 600) && fewT ⟨0, ByteArray.empty, 0, 0, none, 0, d.cols⟩
end Go.Proofs.YthmjgaekcghonaaGreatDoor

/-
  How long the strings of a change that comes in may be: as the statement's own bound on all that is handed in has it; parameters of type api.DDL and []api.DDL, opened with it.
-/
namespace Go.Proofs.YthmjgaekcghonaaGreatDoor
open Go.RowKit Go.WideShapes

theorem sized_each {H : Type} {P : Program} {ts us : List TypeId} {ds gs : List (DataW H)} (h : (DataW.weightsEach P (ts ++ us) (ds ++ gs)).all (· ≤ reachBytes) = true) (j : Nat) (t : TypeId) (d : DataW H) (ht : ts[j]? = some t) (hd : ds[j]? = some d) : ∀ n ∈ d.weights P t, n ≤ reachBytes := fun n hn => by
  have h1 : (ts ++ us)[j]? = some t := by rw [List.getElem?_append_left (List.getElem?_eq_some_iff.1 ht).1]; exact ht
  have h2 : (ds ++ gs)[j]? = some d := by rw [List.getElem?_append_left (List.getElem?_eq_some_iff.1 hd).1]; exact hd
  have := List.all_eq_true.1 h n (DataW.weights_mem_each h1 h2 n hn)
  simpa using this
theorem weightsAll_mem {H : Type} {P : Program} {e : TypeId} : ∀ {l : List (DataW H)} {d : DataW H} {n : Nat}, d ∈ l → n ∈ d.weights P e → n ∈ DataW.weightsAll P e l
  | x :: r, d, n, hd, hn => by
    simp only [DataW.weightsAll, List.mem_append]
    rcases List.mem_cons.1 hd with rfl | hd
    · exact .inl hn
    · exact .inr (weightsAll_mem hd hn)
/-- the strings of a change are not longer than any machine reaches -/
def SmD (d : Dp) : Prop := d.tb.size ≤ reachBytes ∧ d.co.size ≤ reachBytes ∧ d.to.size ≤ reachBytes ∧ d.key.size ≤ reachBytes ∧ d.ds.size ≤ reachBytes
set_option maxRecDepth 100000 in
theorem val_w {H : Type} {enc : TypeId × Value → H} {W : World} {sp : Nat → Bool} {fuel : Nat} {c0 c1 : Value} {s : ByteArray} {y : DataW H × List MemPlace}
    (h : DataW.trod enc Tryz.prog W 0 sp true fuel 28 [c0, c1, .string s] = some y) : s.size ∈ y.1.weights Tryz.prog 28 := by
  obtain ⟨y0, y1, y2, n', hy, _, t0, t1, t2⟩ := Go.Deep.trod_struct3 Tryz.underlying28 h
  simp [q_int, q_int64, q_string] at t0 t1 t2
  obtain ⟨s', r2, e2, w2⟩ := DataW.trod_string Tryz.underlying9 t2
  simp at r2
  subst r2
  subst hy
  simp [DataW.weights, Tryz.underlying28, DataW.weightsEach, e2]
set_option maxRecDepth 100000 in
set_option maxHeartbeats 1000000 in
theorem ddl_w {H : Type} {enc : TypeId × Value → H} {W : World} {sp : Nat → Bool} {fuel : Nat} {d : Db} {y : DataW H × List MemPlace}
    (h : DataW.trod enc Tryz.prog W 0 sp true fuel 31 (fD d) = some y) (hw : ∀ n ∈ y.1.weights Tryz.prog 31, n ≤ reachBytes) : SmD d.p := by
  obtain ⟨xs, n', _, hy, hl, hlen, hf⟩ := DataW.trod_struct Tryz.underlying31 h
  match xs, hlen with
  | [y0, y1, y2, y3, y4, y5, y6, y7, y8], _ =>
    have t1 := hf 1 _ rfl
    have t2 := hf 2 _ rfl
    have t3 := hf 3 _ rfl
    have t4 := hf 4 _ rfl
    have t7 := hf 7 _ rfl
    simp [q_string, fD] at t1 t2 t3 t4 t7
    obtain ⟨s1, r1, e1, _⟩ := DataW.trod_string Tryz.underlying9 t1
    obtain ⟨s2, r2, e2, _⟩ := DataW.trod_string Tryz.underlying9 t2
    obtain ⟨s3, r3, e3, _⟩ := DataW.trod_string Tryz.underlying9 t3
    obtain ⟨s4, r4, e4, _⟩ := DataW.trod_string Tryz.underlying9 t4
    have e7 := val_w t7
    simp at r1 r2 r3 r4
    subst r1 r2 r3 r4
    subst hy
    have hv : ∀ n, n ∈ y1.1.weights Tryz.prog 9 ∨ n ∈ y2.1.weights Tryz.prog 9 ∨ n ∈ y3.1.weights Tryz.prog 9 ∨ n ∈ y4.1.weights Tryz.prog 9 ∨ n ∈ y7.1.weights Tryz.prog 28 → n ≤ reachBytes := fun n hn => hw n (by
      simp only [DataW.weights, Tryz.underlying31, DataW.weightsEach, List.map_cons, List.map_nil, List.mem_append]
      rcases hn with h | h | h | h | h
      · exact .inr (.inl h)
      · exact .inr (.inr (.inl h))
      · exact .inr (.inr (.inr (.inl h)))
      · exact .inr (.inr (.inr (.inr (.inl h))))
      · exact .inr (.inr (.inr (.inr (.inr (.inr (.inr (.inl h)))))))) 
    exact ⟨hv _ (.inl (by simp [e1, DataW.weights])), hv _ (.inr (.inl (by simp [e2, DataW.weights]))), hv _ (.inr (.inr (.inl (by simp [e3, DataW.weights])))), hv _ (.inr (.inr (.inr (.inl (by simp [e4, DataW.weights]))))), hv _ (.inr (.inr (.inr (.inr e7))))⟩
set_option maxRecDepth 100000 in
theorem openDDLW {H : Type} {enc : TypeId × Value → H} {W : World} {base : Nat} {v : Value} {d : DataW H} {p : List MemPlace} {sp : Nat → Bool}
    (hv : Value.okWide Tryz.prog W .any base 31 v) (h : DataW.Trod enc Tryz.prog W 0 sp true 31 v d p) (hw : ∀ n ∈ d.weights Tryz.prog 31, n ≤ reachBytes) : ∃ d : Db, v = DV d ∧ InD W d ∧ SmD d.p := by
  obtain ⟨t, rfl, h2⟩ := openDDL hv h
  obtain ⟨fuel, hf⟩ := h
  exact ⟨t, rfl, h2, ddl_w (d := t) hf hw⟩
/-- a slice of structs opened, each with its data -/
theorem row_openW {α : Type} [Inhabited α] {H : Type} {enc : TypeId × Value → H} {W : World} {sp : Nat → Bool} {m : Nat} {f : α → List Value} {Q : α → Prop} {ts e : TypeId} (hts : Tryz.prog.underlying ts = some (.slice e)) (hm : Tryz.prog.cellsOf e = m)
    (hone : ∀ fuel cs x, DataW.trod enc Tryz.prog W 0 sp true fuel e cs = some x → (∀ n ∈ x.1.weights Tryz.prog e, n ≤ reachBytes) → ∃ a, cs = f a ∧ Q a) (hf0 : ∀ a, ∃ v, (f a)[0]? = some v)
    {fuel : Nat} {v : Value} {x : DataW H × List MemPlace} (h : DataW.trod enc Tryz.prog W 0 sp true fuel ts [v] = some x) (hw : ∀ n ∈ x.1.weights Tryz.prog ts, n ≤ reachBytes) : ∃ a len cap, v = .slice a len cap ∧ ∃ l : List α, l.length = len ∧ len ≤ maxLen ∧ len ≤ cap ∧ RowAt m f W W.heap.size a l ∧ ∀ x ∈ l, Q x := by
  rcases Go.Deep.open_slice hts h with ⟨hcs, _⟩ | ⟨x, len, cap, m', n, D, Pl, hcs, hb, hl, hmx, hmm, hxe, hx⟩
  · obtain rfl : v = .slice none 0 0 := by simpa using hcs
    exact ⟨none, 0, 0, rfl, [], rfl, Nat.zero_le _, Nat.zero_le _, fun hp => absurd hp (by simp), by simp⟩
  · obtain rfl : v = .slice (some x) len cap := by simpa using hcs
    rw [hm] at hx
    have hlm : len ≤ m' := by rw [hmm]; split <;> omega
    have one : ∀ i, i < len → ∃ a : α, (∀ j v, (f a)[j]? = some v → W.cell? ((x.add (i * m)).add j) = some v) ∧ Q a := fun i hi => by
      obtain ⟨cs, h1, h2⟩ := hx i (by omega)
      obtain ⟨_, hlen, hc⟩ := World.cells?_some h1
      obtain ⟨a, rfl, hq⟩ := hone _ _ _ h2 fun n hn => hw n (by
        rw [hxe]
        simp only [DataW.weights, hts, List.mem_cons, List.mem_append]
        exact .inr (.inl (weightsAll_mem (List.mem_map.2 ⟨i, List.mem_range.2 hi, rfl⟩) hn)))
      refine ⟨a, fun j v hv => ?_, hq⟩
      rw [hc j (by have := (List.getElem?_eq_some_iff.1 hv).1; omega)]
      exact hv
    obtain ⟨g, hg⟩ := Go.Deep.choose_lt one
    refine ⟨some x, len, cap, rfl, (List.range len).map g, by simp, by omega, hl, fun hp => ?_, fun y hy => ?_⟩
    · simp at hp
      obtain ⟨v0, hv0⟩ := hf0 (g 0)
      have e0 := (hg 0 hp).1 0 v0 hv0
      obtain ⟨b, off, spt⟩ := x
      obtain rfl : spt = none := by simpa [Addr.add] using World.cell?_spot e0
      have hlt := World.block_lt_of_cell? W _ e0
      rw [Addr.add_lit, Addr.add_lit] at hlt
      refine ⟨b, off, rfl, hlt, fun j t hj i v hv => ?_⟩
      have hjl : j < len := by
        have := (List.getElem?_eq_some_iff.1 hj).1
        simpa using this
      have ht : g j = t := by simpa [hjl] using hj
      subst ht
      have := (hg j hjl).1 i v hv
      simp only [Addr.add_lit] at this
      exact this
    · simp at hy
      obtain ⟨i, hi, rfl⟩ := hy
      exact (hg i hi).2
set_option maxRecDepth 100000 in
theorem openDDLsW {H : Type} {enc : TypeId × Value → H} {W : World} {a : Option Addr} {len cap : Nat} {d : DataW H} {p : List MemPlace} {sp : Nat → Bool}
    (h : DataW.Trod enc Tryz.prog W 0 sp true 42 (.slice a len cap) d p) (hw : ∀ n ∈ d.weights Tryz.prog 42, n ≤ reachBytes) : ∃ l : List Db, len = l.length ∧ DdlsIn W a cap l ∧ ∀ d ∈ l, SmD d.p := by
  obtain ⟨fuel, hf⟩ := h
  simp only [Value.cells] at hf
  obtain ⟨a', len', cap', e, l, rfl, hl1, hlc, hl2, hl3⟩ := row_openW (Q := fun d => InD W d ∧ SmD d.p) Tryz.underlying42 q_ddl (fun fuel cs x hx hn => by
    obtain ⟨t, rfl, h2⟩ := ddl_of _ _ _ hx
    exact ⟨t, rfl, h2, ddl_w hx hn⟩) (fun a => ⟨_, rfl⟩) hf hw
  cases e
  exact ⟨l, rfl, ⟨hl1, hlc, ⟨hl2, fun d hd => (hl3 d hd).1.2.2.2.2.2.2.2.2.2.2.2.2.1⟩, fun d hd => (hl3 d hd).1⟩, fun d hd => (hl3 d hd).2⟩
end Go.Proofs.YthmjgaekcghonaaGreatDoor

/-
  Contract of package ddl's fill: the columns of a new table, in its box.
-/
namespace Go.Proofs.YthmjgaekcghonaaGreatDoor
open Go.RowKit

/-- a column with its number -/
def Cb.at (c : Cb) (i : Nat) : Cb := { c with id := (i : Int) }
def numd (l : List Cb) : List Cb := l.mapIdx fun i c => { c with id := (i : Int) }
theorem numd_get (l : List Cb) (i : Nat) : (numd l)[i]? = (l[i]?).map fun c => c.at i := by unfold numd; rw [List.getElem?_mapIdx]; rfl
theorem numd_length (l : List Cb) : (numd l).length = l.length := by unfold numd; rw [List.length_mapIdx]
theorem numd_take (l : List Cb) (k : Nat) (c : Cb) (h : l[k]? = some c) : numd (l.take (k + 1)) = numd (l.take k) ++ [{ c with id := (k : Int) }] := by
  have hk := (List.getElem?_eq_some_iff.1 h).1
  unfold numd
  rw [List.take_add_one, h, Option.toList, List.mapIdx_append, List.length_take, show min k l.length = k by omega]
  simp
theorem colP_numd (l : List Cb) (s : ByteArray) : colP (numd l) s = colP l s := by
  unfold colP
  have e : (fun c : Cb => eqS c.nm s) = (fun b : ByteArray => eqS b s) ∘ Cb.nm := rfl
  have h : (numd l).map Cb.nm = l.map Cb.nm := by
    refine List.ext_getElem? fun i => ?_
    rw [List.getElem?_map, List.getElem?_map, numd_get]
    cases l[i]? <;> rfl
  rw [e, ← List.findIdx?_map, ← List.findIdx?_map, h]
/-- the table when k columns stand -/
def fillT (t : Tb) (l : List Cb) (k : Nat) (A : Option Addr) (cap : Nat) : Tb := ⟨t.id, t.nm, t.key, (k : Int), A, cap, numd (l.take k)⟩
theorem acol_ncol (l : List Cb) (k : Nat) (c : Cb) : acolE (numd (l.take k)) c = ncolE l k c := by
  unfold acolE ncolE
  rw [colP_numd]; rfl
theorem ncolsE_stop {l : List Cb} : ∀ (r : List Cb) (i k : Nat) (c : Cb), (∀ j x, j < k → r[j]? = some x → ncolE l (i + j) x = 0) → r[k]? = some c → ncolE l (i + k) c ≠ 0 → ncolsE l i r = ncolE l (i + k) c
  | [], _, k, c, _, h, _ => by simp at h
  | a :: r, i, 0, c, _, h, h0 => by
    simp at h; subst h
    rw [ncolsE, if_neg (by simpa using h0)]; rfl
  | a :: r, i, k + 1, c, ha, h, h0 => by
    rw [ncolsE, if_pos (by simpa using ha 0 a (by omega) rfl)]
    rw [show i + (k + 1) = i + 1 + k by omega] at h0 ⊢
    exact ncolsE_stop r (i + 1) k c (fun j x hj hx => by
      have := ha (j + 1) x (by omega) (by simpa using hx)
      rwa [show i + (j + 1) = i + 1 + j by omega] at this) (by simpa using h) h0
theorem ncolsE_done {l : List Cb} : ∀ (r : List Cb) (i : Nat), (∀ j x, r[j]? = some x → ncolE l (i + j) x = 0) → ncolsE l i r = 0
  | [], _, _ => rfl
  | a :: r, i, h => by
    rw [ncolsE, if_pos (by simpa using h 0 a rfl)]
    exact ncolsE_done r (i + 1) fun j x hx => by
      have := h (j + 1) x (by simpa using hx)
      rwa [show i + (j + 1) = i + 1 + j by omega] at this
/-- why a table's columns can't stand -/
def filE (d : Dp) : Int := if d.cols.length = 0 then 5 else if 10 < d.cols.length then 3
    else if ncolsE d.cols 0 d.cols = 0 then (match (colP d.cols d.key).bind fun k => d.cols[k]? with
      | none => 15
      | some c => if c.nl = true then 11 else 0)
    else ncolsE d.cols 0 d.cols
/-- a table in its box, its columns its own -/
def Boxed (w : World) (b Bc : Nat) (t : Tb) : Prop := OwnTb w b (.slice (some ⟨b, 0, none⟩) 1 1) [t] ∧ OwnC w Bc (.slice t.A t.cols.length t.cap) t.cols
theorem Boxed.cells {w : World} {b Bc : Nat} {t : Tb} (h : Boxed w b Bc t) : w.cell? ⟨b, 0, none⟩ = some (.int .i64 t.id) ∧ w.cell? ⟨b, 1, none⟩ = some (.string t.nm) ∧ w.cell? ⟨b, 2, none⟩ = some (.int .i64 t.key) ∧ w.cell? ⟨b, 3, none⟩ = some (.int .i64 t.nx) ∧ w.cell? ⟨b, 4, none⟩ = some (.slice t.A t.cols.length t.cap) := by
  have := tab_cells (k := 0) h.1 rfl
  simpa using this
theorem Boxed.below {w w' : World} {b Bc : Nat} {t : Tb} (h : Boxed w b Bc t) (hb : Below w.heap.size w w') : Boxed w' b Bc t := ⟨h.1.below hb, h.2.below hb⟩
theorem Boxed.at {w : World} {b Bc : Nat} {t : Tb} (h : Boxed w b Bc t) : TabAt w w.heap.size t := h.2.at lenC
theorem acol_box (b Bc : Nat) (t : Tb) (c : Cb) (w : World) (ht : UTab w) (h : Boxed w b Bc t) (hb1 : b < Bc) (hb2 : Bc ≤ w.heap.size) (hu : 0 < b ∧ 1 < b) (hl : t.cols.length ≤ 1000000) (hc : c.nm.size ≤ 1000000) (hn0 : 0 ≤ t.nx) (hn1 : t.nx ≤ 1000000) :
    Calls Tryz.prog 68 #[.pointer (some ⟨b, 0, none⟩), CV c] w fun e w' => e = .returned (.int .i64 (acolE t.cols c)) ∧ Off (fun x => x = b ∨ Bc ≤ x) w w' ∧ (acolE t.cols c = 0 → UTab w' ∧ ∃ A' cap', Boxed w' b Bc (t.more A' cap' c)) := by
  have hcl : ∀ x, colBk t = some x → Bc ≤ x := fun x hx => (h.2.lt x hx).1
  have := acol_any b 1 0 [t] t c w b Bc ht h.1 rfl h.2 hb1 hb2 hl hc hn0 hn1
  rw [show 0 * 5 = 0 from rfl] at this
  refine this.mono ?_
  rintro e w' ⟨rfl, hbad, hok⟩
  by_cases h0 : acolE t.cols c = 0
  · obtain ⟨hof, A', cap', h1, h2⟩ := hok h0
    have hof' : Off (fun x => x = b ∨ Bc ≤ x) w w' := hof.mono fun x _ e => e.imp id (hcl x)
    refine ⟨rfl, hof', fun _ => ⟨ht.off hof' (by omega) (by omega), A', cap', h1, ?_⟩⟩
    show OwnC w' Bc (.slice A' (t.cols ++ [{ c with id := t.nx }]).length cap') _
    rw [List.length_append]; exact h2
  · exact ⟨rfl, .of_below (hbad h0), fun e => absurd e h0⟩
/-- the key of a table in its box stored -/
theorem Boxed.key {w : World} {b Bc : Nat} {T : Tb} (h : Boxed w b Bc T) (hb : b < Bc) (q : Int) : Boxed (w.setCell ⟨b, 2, none⟩ (.int .i64 q)) b Bc { T with key := q } := by
  have h1 := OwnR.set1 (l := [T]) lenT h.1 (k := 0) (i := 2) (x := T) (y := { T with key := q }) (u := .int .i64 q) rfl (by omega) rfl
  rw [show 0 * 5 + 2 = 2 from rfl] at h1
  exact ⟨h1, OwnR.off h.2 (Off.set w b 2 (.int .i64 q)) (fun x hx e => by
    have h3 := (h.2.lt x hx).1
    omega)⟩
set_option maxRecDepth 100000 in
set_option maxHeartbeats 2000000 in
theorem fill_any (b : Nat) (t : Tb) (d : Db) (w : World) (ht : UTab w) (hB : OwnTb w b (.slice (some ⟨b, 0, none⟩) 1 1) [t]) (htA : t.A = none) (htc : t.cap = 0) (hu : 0 < b ∧ 1 < b) (ht0 : t.cols = []) (htn : t.nx = 0) (hD : DdlAt w b d) (hw : ∀ c ∈ d.p.cols, c.nm.size ≤ 1000000) :
    Calls Tryz.prog 64 #[.pointer (some ⟨b, 0, none⟩), DV d] w fun e w' => e = .returned (.int .i64 (filE d.p)) ∧ Below b w w' ∧
      (filE d.p = 0 → ∃ A' cap' Bc, b < Bc ∧ Bc ≤ w'.heap.size ∧ Boxed w' b Bc ⟨t.id, t.nm, (((colP d.p.cols d.p.key).getD 0 : Nat) : Int), (d.p.cols.length : Int), A', cap', numd d.p.cols⟩) := by
  have hbw : b < w.heap.size := (hB.lt b rfl).2
  obtain ⟨w0, hw0, hb0, hX, hs0⟩ := box_ddl w d
  have Hw0 := Lib.hid hw0; clear hw0
  have Hb0 := Lib.hid hb0
  have HB0 : Hid (Boxed w0 b w0.heap.size t) := ⟨hB.below hb0, by rw [htA, ht0, htc]; exact OwnR.nil _ _ _ _ _⟩
  clear hB htA htc
  have HD : Hid (ColsAt w0 b d.A d.p.cols) := RowAt.below hD (hb0.mono (by omega))
  clear hD
  have HT := Lib.hid (ht.below hb0 (Nat.le_refl _)); clear ht hb0
  have Hs0 := Lib.hid hs0; clear hs0
  have HWc := Lib.hid hw; clear hw
  obtain ⟨x0, x1, x2, x3, x4, x5, x6, x7, x8, x9, x10, x11⟩ := hX.ddl
  have HX := Lib.hid hX
  clear hX
  by_cases hz : d.p.cols.length = 0
  · have He : Hid (filE d.p = 5) := by show _ = _; unfold filE; rw [if_pos hz]
    generalize filE d.p = E at He ⊢
    have hq : ((d.p.cols.length : Int) == 0) = true := by rw [beq_iff_eq]; omega
    clear hz
    go_enter Tryz.func64, Tryz.ntmps64
    go_wp2_with fail
    rw [Hw0.out]
    go_ret
    exact ⟨by rw [He.out]; rfl, Hb0.out.mono (by omega), fun h => by rw [He.out] at h; cases h⟩
  have hq : ((d.p.cols.length : Int) == 0) = false := by rw [beq_eq_false_iff_ne]; omega
  by_cases hm : 10 < d.p.cols.length
  · have He : Hid (filE d.p = 3) := by show _ = _; unfold filE; rw [if_neg hz, if_pos hm]
    generalize filE d.p = E at He ⊢
    have hq2 : decide (10 < (d.p.cols.length : Int)) = true := by simp; omega
    clear hz hm
    go_enter Tryz.func64, Tryz.ntmps64
    go_wp2_with fail
    rw [Hw0.out]
    go_ret
    exact ⟨by rw [He.out]; rfl, Hb0.out.mono (by omega), fun h => by rw [He.out] at h; cases h⟩
  have hq2 : decide (10 < (d.p.cols.length : Int)) = false := by simp; omega
  have He : Hid (filE d.p = if ncolsE d.p.cols 0 d.p.cols = 0 then (match (colP d.p.cols d.p.key).bind fun k => d.p.cols[k]? with
      | none => 15
      | some c => if c.nl = true then 11 else 0)
    else ncolsE d.p.cols 0 d.p.cols) := by show _ = _; unfold filE; rw [if_neg hz, if_neg hm]
  generalize filE d.p = E at He ⊢
  have hlen : d.p.cols.length ≤ 10 := by omega
  have Hpos := Lib.hid (show 0 < d.p.cols.length by omega)
  clear hz hm
  go_enter Tryz.func64, Tryz.ntmps64
  go_wp2_with fail
  rw [Hw0.out]
  clear x0 x1 x2 x3 x4 x5 x6 x7 x8 x9 x10 x11 hq hq2
  go_loopw [23] (fun i wr => ∃ (k : Nat) (A : Option Addr) (cap : Nat), k ≤ d.p.cols.length ∧ i = .int .i64 k ∧ Hid (Boxed wr b w0.heap.size (fillT t d.p.cols k A cap)) ∧ Hid (Below b w0 wr) ∧ Hid (UTab wr) ∧ Hid (BlkN wr w.heap.size (fD d)) ∧ Hid (w0.heap.size ≤ wr.heap.size) ∧
    Hid (∀ j x, j < k → d.p.cols[j]? = some x → ncolE d.p.cols j x = 0)) (fun i _ => d.p.cols.length - (intOf i).toNat)
  case atStart =>
    refine ⟨0, t.A, t.cap, by omega, rfl, ?_, Below.refl _ _, HT.out, HX.out, Nat.le_refl _, fun j x h => by omega⟩
    have : fillT t d.p.cols 0 t.A t.cap = t := by
      unfold fillT numd
      obtain ⟨a1, a2, a3, a4, a5, a6, a7⟩ := t
      simp at ht0 htn
      subst ht0 htn
      rfl
    show Boxed _ _ _ _
    rw [this]; exact HB0.out
  case round =>
    obtain ⟨k, A, cap, hk, rfl, hbx, hb, hut, hX, hsz, hall⟩ := hrel
    by_cases hlt : k < d.p.cols.length
    · obtain ⟨c, hc⟩ : ∃ c, d.p.cols[k]? = some c := ⟨d.p.cols[k], by simp [hlt]⟩
      have Hc := Lib.hid hc
      obtain ⟨bb, off, hAe, hbB, d0, d1, d2, d3, d4, d5, d6, d7⟩ := ColsAt.get (RowAt.below HD.out hb.out) k c hc
      obtain ⟨w2, hw2, hb2, hY, hs2⟩ := box_colO wr c
      have Hw2 := Lib.hid hw2; clear hw2 hY hs2
      have HbB : Hid (b ≤ wr.heap.size) := by show _ ≤ _; have := hsz.out; have := Hs0.out; omega
      have HA := Lib.hid (acol_box b w0.heap.size (fillT t d.p.cols k A cap) c w2 (hut.out.below hb2 (Nat.le_refl _)) (hbx.out.below hb2) (by have := Hs0.out; omega) (Nat.le_trans hsz.out hb2.size) hu (by show (numd _).length ≤ _; rw [numd_length, List.length_take]; omega) (HWc.out c (List.mem_of_getElem? hc)) (by show (0 : Int) ≤ (k : Int); omega) (by show (k : Int) ≤ 1000000; omega))
      rw [show acolE (fillT t d.p.cols k A cap).cols c = ncolE d.p.cols k c from acol_ncol _ _ _, ← Hw2.out] at HA
      have Hb2 := Lib.hid (hb.out.trans (hb2.mono HbB.out))
      have HX2 := Lib.hid (hX.out.below hb2 (by have := hsz.out; have := Hs0.out; omega))
      have Hbw2 := Lib.hid hb2
      clear hb2 hc
      generalize hF : ncolE d.p.cols k c = F at HA
      by_cases hF0 : F = 0
      · subst hF0
        have Hall : Hid (∀ j x, j < k + 1 → d.p.cols[j]? = some x → ncolE d.p.cols j x = 0) := fun j x hj hx => by
          by_cases e : j = k
          · subst e; rw [Hc.out] at hx; cases hx; exact hF
          · exact hall.out j x (by omega) hx
        clear hF
        rw [hAe]
        go_wp2_with fail
        refine HA.out.mono ?_
        rintro e w3 ⟨rfl, hb3, hok⟩
        obtain ⟨hut3, A', cap', hbx3⟩ := hok trivial
        rw [Hw2.out] at hb3
        have Hb3 := Lib.hid (Hb2.out.trans (hb3.below (fun x _ e => by have := Hs0.out; omega) (by have := HbB.out; have := Hbw2.out.size; omega)))
        have HX3 : Hid (BlkN w3 w.heap.size (fD d)) := fun i v hv => hb3.keep (HX2.out i v hv) (fun e => by have := Hs0.out; simp at e; omega)
        have Hs3 : Hid (w0.heap.size ≤ w3.heap.size) := Nat.le_trans hsz.out (Nat.le_trans Hbw2.out.size hb3.size)
        have Hbx3 : Hid (Boxed w3 b w0.heap.size (fillT t d.p.cols (k + 1) A' cap')) := by
          show Boxed _ _ _ _
          have e : fillT t d.p.cols (k + 1) A' cap' = (fillT t d.p.cols k A cap).more A' cap' c := by
            unfold fillT Tb.more
            rw [numd_take _ _ _ Hc.out]
            simp
          rw [e]; exact hbx3
        have Hut3 := Lib.hid hut3
        clear hok hb3 hbx3 hut3
        go_wp2_with fail
        go_roundw
        case rel => exact ⟨k + 1, A', cap', by omega, by go_num, Hbx3, Hb3, Hut3, HX3, Hs3, Hall⟩
        case measure => simp [intOf]; omega
      · have HF0 := Lib.hid hF0
        have He2 : Hid (E = F) := by
          show _ = _
          have h1 := ncolsE_stop (l := d.p.cols) d.p.cols 0 k c (fun j x hj hx => by rw [Nat.zero_add]; exact hall.out j x hj hx) Hc.out (by rw [Nat.zero_add, hF]; exact hF0)
          rw [Nat.zero_add, hF] at h1
          rw [He.out, h1, if_neg hF0]
        have hz0 : (F == 0) = false := by simpa using hF0
        have hz1 : (F != 0) = true := by rw [bne, hz0]; rfl
        clear hF hF0
        rw [hAe]
        go_wp2_with fail
        refine HA.out.mono ?_
        rintro e w3 ⟨rfl, hb3, _⟩
        rw [Hw2.out] at hb3
        have Hb3 := Lib.hid ((Hb0.out.mono (Nat.le_of_lt hbw)).trans (Hb2.out.trans (hb3.below (fun x _ e => by have := Hs0.out; omega) (by have := HbB.out; have := Hbw2.out.size; omega))))
        clear hb3
        go_wp2_with fail
        go_ret
        exact ⟨by rw [He2.out]; rfl, Hb3.out, fun h => absurd (He2.out.symm.trans h) HF0.out⟩
    · have hlt' : decide ((k : Int) < (d.p.cols.length : Int)) = false := by simp; omega
      obtain rfl : k = d.p.cols.length := by omega
      have Hn0 : Hid (ncolsE d.p.cols 0 d.p.cols = 0) := ncolsE_done _ _ fun j x hx => by rw [Nat.zero_add]; exact hall.out j x (List.getElem?_eq_some_iff.1 hx).1 hx
      rw [Hn0.out, if_pos rfl] at He
      have Hft : Hid (numd (d.p.cols.take d.p.cols.length) = numd d.p.cols) := by show _ = _; rw [List.take_length]
      obtain ⟨T, hT⟩ : ∃ T, fillT t d.p.cols d.p.cols.length A cap = T := ⟨_, rfl⟩
      have HTe : Hid (T = ⟨t.id, t.nm, t.key, (d.p.cols.length : Int), A, cap, numd d.p.cols⟩) := by show _ = _; rw [← hT]; unfold fillT; rw [Hft.out]
      rw [hT] at hbx
      clear hT
      have HcI : Hid (colI T d.p.key = colP d.p.cols d.p.key) := by show _ = _; rw [HTe.out]; exact colP_numd _ _
      have HTl : Hid (T.cols.length ≤ 1000000) := by show _ ≤ _; rw [HTe.out]; show (numd _).length ≤ _; rw [numd_length]; omega
      have HSd : Hid (TabAt wr.drew wr.drew.heap.size T) := hbx.out.at
      obtain ⟨c0, c1, c2, c3, c4⟩ := hbx.out.cells
      obtain ⟨x0, x1, x2, x3, x4, x5, x6, x7, x8, x9, x10, x11⟩ := hX.out.ddl
      have HbE := Lib.hid ((Hb0.out.mono (Nat.le_of_lt hbw)).trans hb.out)
      have HbW : Hid (b ≤ wr.heap.size) := by show _ ≤ _; have := hsz.out; have := Hs0.out; omega
      have HC := Lib.hid (fun w' hA' => scol_any T d.p.key w' hA' HTl.out)
      rw [HcI.out] at HC
      cases hco : colP d.p.cols d.p.key with
      | none =>
        have He2 : Hid (E = 15) := by show _ = _; rw [He.out, hco]; rfl
        rw [hco, show fstV none = .tuple #[.int .i64 0, .bool false] from rfl] at HC
        clear hco
        go_wp2_with fail
        go_region_with (first
          | (go_at_call 70; refine (HC.out _ HSd.out).mono ?_; rintro e w2 ⟨rfl, hb2⟩; have Hb2 := Lib.hid ((Below.refl wr.heap.size wr).drew.trans hb2); clear hb2)
          | fail)
        all_goals
          have HbF := Lib.hid (HbE.out.trans (Hb2.out.mono HbW.out))
          go_wp2_with fail
          go_ret
          exact ⟨by rw [He2.out]; rfl, HbF.out, fun h => by rw [He2.out] at h; cases h⟩
      | some q =>
        obtain ⟨c, hc1, hc2, _⟩ := find_some (show d.p.cols.findIdx? (fun c => eqS c.nm d.p.key) = some q from hco)
        have hql := (List.getElem?_eq_some_iff.1 hc1).1
        have He2 : Hid (E = if c.nl = true then 11 else 0) := by show _ = _; rw [He.out, hco]; simp only [Option.bind_some, hc1]
        rw [hco, show fstV (some q) = .tuple #[.int .i64 (q : Int), .bool true] from rfl] at HC
        have Hco := Lib.hid hco
        have HTq : Hid (T.cols[q]? = some (c.at q)) := by show _ = _; rw [HTe.out]; show (numd _)[q]? = _; rw [numd_get, hc1]; rfl
        have hTl2 : T.cols.length = d.p.cols.length := by rw [HTe.out]; exact numd_length _
        clear hco hc1 hc2
        have HR2 := Lib.hid hbx.out.2
        obtain ⟨gc, cc, hsh, hgc1, hgc2, hgc3, hgc4⟩ := OwnR.shape HR2.out (by omega)
        have hA9 : T.A = some ⟨gc, 0, none⟩ := by injection hsh
        have hc9 : T.cap = cc := by injection hsh
        clear hsh
        have HOC : Hid (OwnC wr w0.heap.size (.slice (some ⟨gc, 0, none⟩) T.cols.length cc) T.cols) := by
          show OwnC _ _ _ _
          rw [← hA9, ← hc9]; exact HR2.out
        unfold TV at HC
        rw [hA9, hc9] at HC c4
        have hq0 : (0 : Int) ≤ (q : Int) := by omega
        have hqI : (q : Int) < (T.cols.length : Int) := by omega
        clear hTl2
        have HTk : Hid (({ T with key := (q : Int) } : Tb) = ⟨t.id, t.nm, (q : Int), (d.p.cols.length : Int), A, cap, numd d.p.cols⟩) := by show _ = _; rw [HTe.out]
        cases hnl : c.nl
        · rw [hnl] at He2
          have He3 : Hid (E = 0) := by show _ = _; rw [He2.out]; simp
          clear He2
          go_wp2_with fail
          go_region_with (first
            | (go_at_call 70; refine (HC.out _ HSd.out).mono ?_; rintro e w2 ⟨rfl, hb2⟩; have Hb2 := Lib.hid ((Below.refl wr.heap.size wr).drew.trans hb2); clear hb2)
            | fail)
          all_goals
            clear c0 c1 c2 c3 c4
            have HOC2 := Lib.hid (HOC.out.below Hb2.out)
            have HBx2 := Lib.hid (hbx.out.below Hb2.out)
            obtain ⟨c0, c1, c2, c3, c4⟩ := HBx2.out.cells
            rw [hA9, hc9] at c4
            obtain ⟨y0, y1, y2, y3, y4, y5, y6, y7⟩ := col_cells HOC2.out rfl HTq.out
            rw [show (c.at q).nl = false from hnl] at y4
            rw [show (c.at q).id = (q : Int) from rfl] at y0
            have f2 := OwnR.frozen (l := [T]) HBx2.out.1 2
            have HE := Lib.hid (HBx2.out.key (show b < w0.heap.size by have := Hs0.out; omega) (q : Int))
            have HbF : Hid (Below b w (w2.setCell ⟨b, 2, none⟩ (.int .i64 (q : Int)))) := bput (HbE.out.trans (Hb2.out.mono HbW.out)) (Nat.le_refl _) 2 _
            have HsF : Hid (w0.heap.size ≤ (w2.setCell ⟨b, 2, none⟩ (.int .i64 (q : Int))).heap.size) := Nat.le_trans hsz.out (Nat.le_trans Hb2.out.size (Off.set w2 b 2 _).size)
            go_wp2_with fail
            go_ret
            exact ⟨by rw [He3.out]; rfl, HbF.out, fun _ => ⟨A, cap, w0.heap.size, by have := Hs0.out; omega, HsF.out, by rw [Hco.out, Option.getD_some, ← HTk.out]; exact HE.out⟩⟩
        · rw [hnl] at He2
          have He3 : Hid (E = 11) := by show _ = _; rw [He2.out]; simp
          clear He2
          go_wp2_with fail
          go_region_with (first
            | (go_at_call 70; refine (HC.out _ HSd.out).mono ?_; rintro e w2 ⟨rfl, hb2⟩; have Hb2 := Lib.hid ((Below.refl wr.heap.size wr).drew.trans hb2); clear hb2)
            | fail)
          all_goals
            clear c0 c1 c2 c3 c4
            have HOC2 := Lib.hid (HOC.out.below Hb2.out)
            have HBx2 := Lib.hid (hbx.out.below Hb2.out)
            obtain ⟨c0, c1, c2, c3, c4⟩ := HBx2.out.cells
            rw [hA9, hc9] at c4
            obtain ⟨y0, y1, y2, y3, y4, y5, y6, y7⟩ := col_cells HOC2.out rfl HTq.out
            rw [show (c.at q).nl = true from hnl] at y4
            have HbF := Lib.hid (HbE.out.trans (Hb2.out.mono HbW.out))
            go_wp2_with fail
            go_ret
            exact ⟨by rw [He3.out]; rfl, HbF.out, fun h => by rw [He3.out] at h; cases h⟩
end Go.Proofs.YthmjgaekcghonaaGreatDoor

/-
  Contract of slices.Insert at tables: one table inserted into a row of the call's own. The roads after the library's own (Derived.Shelf.Spec.SlicesInsert, SlicesInsertGrow), at elements of five cells.
-/
namespace Go.Proofs.YthmjgaekcghonaaGreatDoor
open Go.RowKit Go.Lib

theorem ins_get {α : Type} (l : List α) (t : α) (i j : Nat) (hi : i ≤ l.length) : (l.take i ++ t :: l.drop i)[j]? = if j < i then l[j]? else if j = i then some t else l[j - 1]? := by
  by_cases h : j < i
  · rw [if_pos h, List.getElem?_append_left (by rw [List.length_take]; omega), List.getElem?_take, if_pos h]
  · rw [if_neg h, List.getElem?_append_right (by rw [List.length_take]; omega), List.length_take, show min i l.length = i by omega]
    by_cases h2 : j = i
    · rw [if_pos h2, h2]; simp
    · rw [if_neg h2, show j - i = (j - i - 1) + 1 by omega, List.getElem?_cons_succ, List.getElem?_drop, show i + (j - i - 1) = j - 1 by omega]
set_option maxRecDepth 100000 in
set_option maxHeartbeats 4000000 in
/-- there is room, i < len -/
theorem ins_room_any (g cap i vb : Nat) (l : List Tb) (t : Tb) (w : World) (B : Nat) (hO : OwnTb w B (.slice (some ⟨g, 0, none⟩) l.length cap) l) (hi : i < l.length) (hroom : l.length + 1 ≤ cap) (hl : l.length ≤ 1000000)
    (hne : vb ≠ g) (hv : w.heap[vb]? = some (.cells (fT t).toArray 51 (0, 0))) :
    Calls Tryz.prog 65 #[.slice (some ⟨g, 0, none⟩) l.length cap, .int .i64 (i : Int), .slice (some ⟨vb, 0, none⟩) 1 1] w fun e w' =>
      e = .returned (.slice (some ⟨g, 0, none⟩) (l.length + 1) cap) ∧ OwnTb w' B (.slice (some ⟨g, 0, none⟩) (l.length + 1) cap) (l.take i ++ t :: l.drop i) ∧ Off (fun x => x = g) w w' := by
  have hO' := hO
  obtain ⟨_, h0 | ⟨g', cap', cur, hsl, hB, hcur, hcap, hmax, hcs, _⟩⟩ := hO'
  · omega
  cases hsl
  have hm63 : cap ≤ 9223372036854775807 := by unfold maxLen at hmax; omega
  have hcell : ∀ j, j < cap * 5 → (w.cell? ⟨g, j, none⟩).isSome = true := fun j hj => by
    rw [cell_of_row w g j cur _ (0, 0) hcur, Array.getElem?_eq_getElem (by omega)]; rfl
  have hfro : ∀ j, w.frozen? ⟨g, j, none⟩ = false := fun j => frozen_of_row w g j cur _ hcur
  obtain ⟨i0, hi0, hz0, hz1, hz2⟩ := info_parts infoTb
  have hsz : (Tryz.prog.info? 51).map (·.size) = some 5 := by rw [hi0]; simp [hz1]
  have hvs : ∀ j v, (fT t)[j]? = some v → w.cell? ⟨vb, j, none⟩ = some v := fun j v hj => by
    rw [cell_of_row w vb j _ _ (0, 0) hv]; simpa using hj
  have hov : ∀ lb cb, (callFunc 88 #[.slice (some ⟨vb, 0, none⟩) 1 1, .slice (some ⟨g, (i + 1) * 5, none⟩) lb cb]).run Tryz.prog w = .ok (.value (.bool false)) w := fun lb cb => by
    rw [run_callFunc_extern Tryz.func88 (by kernel_rfl) (by kernel_rfl) (by kernel_rfl) (e := Extern.SlicesOverlaps.overlaps #[22, 22] #[4]) (by kernel_rfl),
      Lib.run_overlaps_apart w 22 4 51 Tryz.underlying22 5 Tryz.sizeOf51 ⟨vb, 0, none⟩ ⟨g, (i + 1) * 5, none⟩ 1 1 lb cb hne 51 51 5 (cap * 5) (by simp [World.shape?, hv, fT]) (by simp [World.shape?, hcur, hcs]) (by omega)
        (frozen_of_row w vb 0 _ _ hv) (frozen_of_row w vb 5 _ _ hv)]
    rfl
  obtain ⟨tl, htl⟩ : ∃ tl, tl = flt fT (l.drop i) := ⟨_, rfl⟩
  have htll : tl.length = (l.length - i) * 5 := by rw [htl, flat_length lenT, List.length_drop]
  have htls : ∀ p u, tl[p]? = some u → w.cell? ⟨g, i * 5 + p, none⟩ = some u := by
    rw [htl]
    refine flat_all lenT _ fun j x q v hj hv => ?_
    rw [show i * 5 + (j * 5 + q) = (i + j) * 5 + q by omega]
    exact hO.cell lenT (by rwa [List.getElem?_drop] at hj) hv
  have hcp1 : ∀ ty dc sc, (Builtin.copy_ #[22, 22] ty #[.slice (some ⟨g, (i + 1) * 5, none⟩) (l.length - i) dc, .slice (some ⟨g, i * 5, none⟩) (l.length + 1 - i) sc]).run Tryz.prog w.drew = .ok (goInt (Nat.min (l.length + 1 - i) (l.length - i))) (w.drew.setCells g ((i + 1) * 5) tl) := fun ty dc sc =>
    run_copy_cellsK w.drew _ _ ty 51 g ((i + 1) * 5) (l.length - i) dc ⟨g, i * 5, none⟩ (l.length + 1 - i) sc tl Tryz.underlying22 hsz (by rw [htll]; simp only [Nat.min_def]; split <;> omega)
      (fun j v hj => by rw [Addr.add_lit]; exact htls j v hj)
      (fun j hj => hcell _ (by rw [htll] at hj; omega)) (fun j _ => hfro _) (by rw [htl]; exact flat_mem oneT _)
  obtain ⟨W1, hW1⟩ : ∃ W1, W1 = w.drew.setCells g ((i + 1) * 5) tl := ⟨_, rfl⟩
  obtain ⟨cur1, hcur1, hcs1⟩ : ∃ cur1, W1.heap[g]? = some (.cells cur1 51 (0, 0)) ∧ cur1.size = cur.size := by
    rw [hW1]; exact setCells_block g _ tl _ w.drew cur hcur
  have hcp2 : ∀ (W : World), (∀ x, W.cell? x = W1.cell? x) → (∀ x, W.frozen? x = W1.frozen? x) → ∀ ty dc, (Builtin.copy_ #[22, 22] ty #[.slice (some ⟨g, i * 5, none⟩) (l.length + 1 - i) dc, .slice (some ⟨vb, 0, none⟩) 1 1]).run Tryz.prog W = .ok (goInt (Nat.min 1 (l.length + 1 - i))) (W.setCells g (i * 5) (fT t)) := fun W hWc hWf ty dc =>
    run_copy_cellsK W _ _ ty 51 g (i * 5) (l.length + 1 - i) dc ⟨vb, 0, none⟩ 1 1 (fT t) Tryz.underlying22 hsz (by simp only [lenT, Nat.min_def]; split <;> omega)
      (fun j v hj => by
        rw [Addr.add_lit, hWc, hW1, World.cell?_setCells_out g _ _ _ _ (fun h _ => absurd h hne)]
        rw [Nat.zero_add]
        exact hvs j v hj)
      (fun j hj => by
        have : j < 5 := hj
        rw [hWc, cell_of_row W1 g _ cur1 _ (0, 0) hcur1, Array.getElem?_eq_getElem (by omega)]; rfl) (fun j _ => by rw [hWf]; exact frozen_of_row W1 g _ cur1 _ hcur1) (oneT t)
  rw [← hW1] at hcp1
  have Hend : Hid (∀ W : World, (∀ x : Nat, W.heap[x]? = W1.heap[x]?) → W.os = W1.os → W.tape = W1.tape → W.output = W1.output → W.heap.size = W1.heap.size →
      OwnTb (W.setCells g (i * 5) (fT t)) B (.slice (some ⟨g, 0, none⟩) (l.length + 1) cap) (l.take i ++ t :: l.drop i) ∧ Off (fun x => x = g) w (W.setCells g (i * 5) (fT t))) := by
    intro W hWh h1 h2 h3 h4
    have hWc : ∀ x, W.cell? x = W1.cell? x := fun x => World.cell?_of_block (hWh _)
    obtain ⟨cur2, hcur2, hcs2⟩ := setCells_block g 51 (fT t) (i * 5) W cur1 ((hWh g).trans hcur1)
    have hel : (l.take i ++ t :: l.drop i).length = l.length + 1 := by simp; omega
    refine ⟨?_, ?_⟩
    · suffices h : OwnTb (W.setCells g (i * 5) (fT t)) B (.slice (some ⟨g, 0, none⟩) (l.take i ++ t :: l.drop i).length cap) (l.take i ++ t :: l.drop i) by rwa [hel] at h
      refine own_of_cells lenT hcur2 hB (by omega) hmax (by rw [hcs2, hcs1, hcs]) fun j x q v hj hv => ?_
      have hq : q < 5 := (List.getElem?_eq_some_iff.1 hv).1
      have hjl : j < l.length + 1 := by have := (List.getElem?_eq_some_iff.1 hj).1; omega
      rw [ins_get l t i j (by omega)] at hj
      by_cases hji : j < i
      · rw [if_pos hji] at hj
        rw [World.cell?_setCells_out g _ _ W _ (fun _ _ => .inl (by show j * 5 + q < _; omega)), hWc, hW1, World.cell?_setCells_out g _ _ w.drew _ (fun _ _ => .inl (by show j * 5 + q < _; omega))]
        exact hO.cell lenT hj hv
      · rw [if_neg hji] at hj
        by_cases hje : j = i
        · rw [if_pos hje] at hj; cases hj
          subst hje
          have := World.cell?_setCells_in g (fT t) (j * 5) W (fun p hp => by
            have : p < 5 := hp
            rw [hWc, cell_of_row W1 g _ cur1 _ (0, 0) hcur1, Array.getElem?_eq_getElem (by omega)]; rfl) q hq
          rw [this]; exact congrArg some (List.getElem?_eq_some_iff.1 hv).2
        · rw [if_neg hje] at hj
          rw [World.cell?_setCells_out g _ _ W _ (fun _ _ => .inr (by show i * 5 + (fT t).length ≤ j * 5 + q; rw [lenT]; omega)), hWc, hW1]
          have hin : (j - 1 - i) * 5 + q < tl.length := by rw [htll]; omega
          have := World.cell?_setCells_in g tl ((i + 1) * 5) w.drew (fun p hp => hcell _ (by rw [htll] at hp; omega)) ((j - 1 - i) * 5 + q) hin
          rw [show (i + 1) * 5 + ((j - 1 - i) * 5 + q) = j * 5 + q by omega] at this
          rw [this]
          have h2 := flat_get lenT (l.drop i) (j - 1 - i) x q v (by rw [List.getElem?_drop, show i + (j - 1 - i) = j - 1 by omega]; exact hj) hv
          rw [← htl, List.getElem?_eq_getElem hin] at h2
          exact h2
    · refine Off.trans ?_ (off_setCells g _ _ _)
      have h5 : Off (fun x => x = g) w W1 := by rw [hW1]; exact (off_drew w).trans (off_setCells g _ _ _)
      exact ⟨h1.trans h5.os, h2.trans h5.tape, h3.trans h5.output, by rw [h4]; exact h5.size, fun k hk hn => (hWh k).trans (h5.block k hk hn)⟩
  have hw1 : IntKind.i64.wrap ((i : Int) + 1) = (i : Int) + 1 := by rw [IntKind.wrap_i64]; omega
  have hw2 : IntKind.i64.wrap ((l.length : Int) + 1) = (l.length : Int) + 1 := by rw [IntKind.wrap_i64]; omega
  have hb1 : (0 : Int) ≤ (i : Int) + 1 := by omega
  have hb1' : (0 : Int) ≤ (l.length : Int) + 1 := by omega
  have hin : (i : Int) ≤ (l.length : Int) := by omega
  have htn : ((i : Int) + 1).toNat = i + 1 := by omega
  have htn2 : ((l.length : Int) + 1).toNat = l.length + 1 := by omega
  have hb2 : ¬ (cap = i + 1) := by omega
  have hb3 : (i : Int) ≤ (l.length : Int) + 1 := by omega
  have hb4 : ¬ (cap = i) := by omega
  have hb5 : (i : Int) + 1 ≤ (l.length : Int) + 1 := by omega
  have hb6 : (l.length : Int) + 1 ≤ (cap : Int) := by omega
  have hb7 : ¬ ((cap : Int) < (l.length : Int) + 1) := by omega
  have hz3 : ¬ ((i : Int) = (l.length : Int)) := by omega
  clear hW1 hO htls hcell hfro hcur hcur1 hcs hcs1 htl htll hvs hv
  go_enter Tryz.func65, Tryz.ntmps65
  go_wp2_with (simp only [hov])
  go_region_law (refine step_copy_runI rfl _ _ 22 22 rfl _ _ (by simp [Act.eval, Act.put]) (by simp [Act.eval, Act.put]) (hcp1 _ _ _) ?_)
  go_wp2_with (at_builtin; refine wpList_copy_runI _ rfl _ _ 22 22 rfl _ _ rfl rfl (hcp2 _ (fun _ => rfl) (fun _ => rfl) _ _) ?_)
  go_ret
  exact ⟨rfl, (Hend.out _ (fun _ => rfl) rfl rfl rfl rfl).1, (Hend.out _ (fun _ => rfl) rfl rfl rfl rfl).2⟩
end Go.Proofs.YthmjgaekcghonaaGreatDoor

/-
  slices.Insert at tables: no room (a new row), at the end, and all roads together.
-/
namespace Go.Proofs.YthmjgaekcghonaaGreatDoor
open Go.RowKit Go.Lib

set_option maxRecDepth 100000 in
set_option maxHeartbeats 4000000 in
theorem ins_grow_any (g cap i vb : Nat) (l : List Tb) (t : Tb) (w : World) (B : Nat) (hO : OwnTb w B (.slice (some ⟨g, 0, none⟩) l.length cap) l) (hi : i < l.length) (hroom : cap < l.length + 1) (hl : l.length ≤ 1000000) (hBw : B ≤ w.heap.size)
    (hv : w.heap[vb]? = some (.cells (fT t).toArray 51 (0, 0))) :
    Calls Tryz.prog 65 #[.slice (some ⟨g, 0, none⟩) l.length cap, .int .i64 (i : Int), .slice (some ⟨vb, 0, none⟩) 1 1] w fun e w' =>
      ∃ G, e = .returned (.slice (some ⟨w.heap.size, 0, none⟩) (l.length + 1) G) ∧ OwnTb w' B (.slice (some ⟨w.heap.size, 0, none⟩) (l.length + 1) G) (l.take i ++ t :: l.drop i) ∧ Below w.heap.size w w' := by
  have hO' := hO
  obtain ⟨_, h0 | ⟨g', cap', cur, hsl, hB, hcur, hcap, hmax, hcs, _⟩⟩ := hO'
  · omega
  cases hsl
  have hgw : g < w.heap.size := (Array.getElem?_eq_some_iff.1 hcur).1
  have hvw : vb < w.heap.size := (Array.getElem?_eq_some_iff.1 hv).1
  obtain ⟨i0, hi0, hz0, hz1, hz2⟩ := info_parts infoTb
  have hsz : (Tryz.prog.info? 51).map (·.size) = some 5 := by rw [hi0]; simp [hz1]
  have hvs : ∀ j v, (fT t)[j]? = some v → w.cell? ⟨vb, j, none⟩ = some v := fun j v hj => by
    rw [cell_of_row w vb j _ _ (0, 0) hv]; simpa using hj
  have hall : ∀ p u, (flt fT l)[p]? = some u → w.cell? ⟨g, p, none⟩ = some u := flat_all lenT l fun j x q v hj hv => hO.cell lenT hj hv
  have hflen : (flt fT l).length = l.length * 5 := flat_length lenT l
  obtain ⟨hd, hhd⟩ : ∃ hd, hd = flt fT (l.take i) := ⟨_, rfl⟩
  have hhdl : hd.length = i * 5 := by rw [hhd, flat_length lenT, List.length_take]; omega
  have hhds : ∀ p u, hd[p]? = some u → w.cell? ⟨g, p, none⟩ = some u := fun p u hp => by
    have hpl := (List.getElem?_eq_some_iff.1 hp).1
    refine hall p u ?_
    rw [hhd, ← flt_take lenT, List.getElem?_take] at hp
    split at hp
    · exact hp
    · cases hp
  obtain ⟨tl, htl⟩ : ∃ tl, tl = flt fT (l.drop i) := ⟨_, rfl⟩
  have htll : tl.length = (l.length - i) * 5 := by rw [htl, flat_length lenT, List.length_drop]
  have htls : ∀ p u, tl[p]? = some u → w.cell? ⟨g, i * 5 + p, none⟩ = some u := fun p u hp => by
    refine hall _ u ?_
    rw [htl, ← flat_drop lenT, List.getElem?_drop] at hp
    exact hp
  have hkk : (l.length : Int) + 1 - (i : Int) = ((l.length + 1 - i : Nat) : Int) := by omega
  have hik : i + (l.length + 1 - i) = l.length + 1 := by omega
  have hold : (Builtin.firstCells i0.size i (.slice (some ⟨g, 0, none⟩) i cap)).run Tryz.prog w.drew = .ok hd.toArray w.drew := by
    rw [hz1]
    exact run_firstCells_some w.drew 5 i ⟨g, 0, none⟩ i cap hd hhdl (fun j v hj => by
      rw [Addr.add_lit, Nat.zero_add]
      exact hhds j v hj)
  obtain ⟨G, hG⟩ : ∃ G, G = grownCap w (l.length + 1) cap 51 := ⟨_, rfl⟩
  obtain ⟨ROW, hROW⟩ : ∃ ROW : Array Value, ROW = hd.toArray ++ Builtin.zeroCells (Value.agg #[.int .i64 0, .string ByteArray.empty, .int .i64 0, .int .i64 0, .slice none 0 0]).cells (l.length + 1 - i) ++ Builtin.zeroCells (Value.agg #[.int .i64 0, .string ByteArray.empty, .int .i64 0, .int .i64 0, .slice none 0 0]).cells (G - (l.length + 1)) := ⟨_, rfl⟩
  have hrz : ∀ ty, (Builtin.append_ #[22, 3] ty #[.slice (some ⟨g, 0, none⟩) i cap, .int .i64 ((l.length : Int) + 1 - (i : Int))]).run Tryz.prog w =
      .ok (.slice (some ⟨w.heap.size, 0, none⟩) (l.length + 1) G) (w.drew.alloc (.cells ROW 51)) := fun ty => by
    have h := Lib.run_append_grow_zeros w 22 3 ty 51 i0 _ .i64 .i64 Tryz.underlying22 Tryz.underlying3 hi0 hz0 (some ⟨g, 0, none⟩) i cap hd hold (l.length + 1 - i) (by omega) (by omega) (by omega) (by omega) (by rw [hz2]; omega) (by rw [hz2, hik]; exact growslice_fits hroom (by omega))
    rw [hik] at h
    rw [hkk, hROW, hG]
    exact h
  have hGn : l.length + 1 ≤ G := by rw [hG]; exact grownCap_ge w _ _ _
  have hGm : G ≤ maxLen := by rw [hG]; exact grownCap_le_maxLen w (l.length + 1) cap 51 (by unfold maxLen; omega)
  have hG63 : G ≤ 9223372036854775807 := by
    have := hGm
    unfold maxLen at this
    omega
  have hRs : ROW.size = G * 5 := by
    rw [hROW]
    simp [Builtin.zeroCells, Value.cells, hhdl]
    omega
  have hRh : ∀ p u, hd[p]? = some u → ROW[p]? = some u := fun p u hp => by
    have hpl := (List.getElem?_eq_some_iff.1 hp).1
    rw [hROW, Array.getElem?_append_left (by simp; omega), Array.getElem?_append_left (by simpa using hpl)]
    simpa using hp
  clear hROW hG
  obtain ⟨W1, hW1⟩ : ∃ W1, W1 = w.drew.alloc (.cells ROW 51) := ⟨_, rfl⟩
  rw [← hW1] at hrz
  have hcur1 : W1.heap[w.heap.size]? = some (.cells ROW 51 (0, 0)) := by rw [hW1]; exact heap_alloc_new w.drew _
  have hN : ∀ j, j < G * 5 → (W1.cell? ⟨w.heap.size, j, none⟩).isSome = true := fun j hj => by
    rw [cell_of_row W1 w.heap.size j ROW _ (0, 0) hcur1, Array.getElem?_eq_getElem (by omega)]; rfl
  have hNf : ∀ j, W1.frozen? ⟨w.heap.size, j, none⟩ = false := fun j => frozen_of_row W1 w.heap.size j ROW _ hcur1
  have hOld : ∀ k, k < w.heap.size → W1.heap[k]? = w.heap[k]? := fun k hk => by rw [hW1]; exact ((Below.refl w.heap.size w.drew).alloc (Nat.le_refl _) _).block k hk
  have hOc : ∀ b j v, b < w.heap.size → w.cell? ⟨b, j, none⟩ = some v → W1.cell? ⟨b, j, none⟩ = some v := fun b j v hb h => (World.cell?_of_block (hOld b hb)).trans h
  have hcpA : ∀ (W : World), (∀ x, W.cell? x = W1.cell? x) → (∀ x, W.frozen? x = W1.frozen? x) → ∀ ty dc, (Builtin.copy_ #[22, 22] ty #[.slice (some ⟨w.heap.size, i * 5, none⟩) (l.length + 1 - i) dc, .slice (some ⟨vb, 0, none⟩) 1 1]).run Tryz.prog W = .ok (goInt (Nat.min 1 (l.length + 1 - i))) (W.setCells w.heap.size (i * 5) (fT t)) := fun W hWc hWf ty dc =>
    run_copy_cellsK W _ _ ty 51 w.heap.size (i * 5) (l.length + 1 - i) dc ⟨vb, 0, none⟩ 1 1 (fT t) Tryz.underlying22 hsz (by simp only [lenT, Nat.min_def]; split <;> omega)
      (fun j v hj => by rw [Addr.add_lit, hWc, Nat.zero_add]; exact hOc _ _ v hvw (hvs j v hj))
      (fun j hj => by have : j < 5 := hj; rw [hWc]; exact hN _ (by omega)) (fun j _ => by rw [hWf]; exact hNf _) (oneT t)
  have hbN : g ≠ w.heap.size := by omega
  have hcpB : ∀ (W : World), (∀ x, W.cell? x = (W1.setCells w.heap.size (i * 5) (fT t)).cell? x) → (∀ x, W.frozen? x = (W1.setCells w.heap.size (i * 5) (fT t)).frozen? x) → ∀ ty dc sc, (Builtin.copy_ #[22, 22] ty #[.slice (some ⟨w.heap.size, (i + 1) * 5, none⟩) (l.length - i) dc, .slice (some ⟨g, i * 5, none⟩) (l.length - i) sc]).run Tryz.prog W = .ok (goInt (Nat.min (l.length - i) (l.length - i))) (W.setCells w.heap.size ((i + 1) * 5) tl) := fun W hWc hWf ty dc sc =>
    run_copy_cellsK W _ _ ty 51 w.heap.size ((i + 1) * 5) (l.length - i) dc ⟨g, i * 5, none⟩ (l.length - i) sc tl Tryz.underlying22 hsz (by rw [htll]; simp only [Nat.min_def]; split <;> omega)
      (fun j v hj => by
        rw [Addr.add_lit, hWc, World.cell?_setCells_out _ _ _ _ _ (fun h _ => absurd h hbN)]
        exact hOc _ _ v hgw (htls j v hj))
      (fun j hj => by rw [hWc]; exact isSome_setCells _ _ _ _ (fun p hp => hN _ (by have : p < 5 := hp; omega)) _ (hN _ (by rw [htll] at hj; omega)))
      (fun j _ => by rw [hWf, World.frozen?_setCells]; exact hNf _) (by rw [htl]; exact flat_mem oneT _)
  have Hend : Hid (∀ W : World, (∀ x : Nat, W.heap[x]? = (W1.setCells w.heap.size (i * 5) (fT t)).heap[x]?) → W.os = w.os → W.tape = w.tape → W.output = w.output → w.heap.size ≤ W.heap.size →
      OwnTb (W.setCells w.heap.size ((i + 1) * 5) tl) B (.slice (some ⟨w.heap.size, 0, none⟩) (l.length + 1) G) (l.take i ++ t :: l.drop i) ∧ Below w.heap.size w (W.setCells w.heap.size ((i + 1) * 5) tl)) := by
    intro W hWh h1 h2 h3 h4
    have hWc : ∀ x, W.cell? x = (W1.setCells w.heap.size (i * 5) (fT t)).cell? x := fun x => World.cell?_of_block (hWh _)
    obtain ⟨cur2, hcur2, hcs2⟩ := setCells_block w.heap.size 51 (fT t) (i * 5) W1 ROW hcur1
    obtain ⟨cur3, hcur3, hcs3⟩ := setCells_block w.heap.size 51 tl ((i + 1) * 5) W cur2 ((hWh _).trans hcur2)
    have hel : (l.take i ++ t :: l.drop i).length = l.length + 1 := by simp; omega
    have hW2 : ∀ j, j < G * 5 → (W.cell? ⟨w.heap.size, j, none⟩).isSome = true := fun j hj => by
      rw [cell_of_row W w.heap.size j cur2 _ (0, 0) ((hWh _).trans hcur2), Array.getElem?_eq_getElem (by omega)]; rfl
    refine ⟨?_, ?_⟩
    · suffices h : OwnTb (W.setCells w.heap.size ((i + 1) * 5) tl) B (.slice (some ⟨w.heap.size, 0, none⟩) (l.take i ++ t :: l.drop i).length G) (l.take i ++ t :: l.drop i) by rwa [hel] at h
      refine own_of_cells lenT hcur3 hBw (by omega) hGm (by rw [hcs3, hcs2, hRs]) fun j x q v hj hv => ?_
      have hq : q < 5 := (List.getElem?_eq_some_iff.1 hv).1
      have hjl : j < l.length + 1 := by have := (List.getElem?_eq_some_iff.1 hj).1; omega
      rw [ins_get l t i j (by omega)] at hj
      by_cases hji : j < i
      · rw [if_pos hji] at hj
        rw [World.cell?_setCells_out _ _ _ W _ (fun _ _ => .inl (by show j * 5 + q < _; omega)), hWc, World.cell?_setCells_out _ _ _ W1 _ (fun _ _ => .inl (by show j * 5 + q < _; omega)), cell_of_row W1 w.heap.size _ ROW _ (0, 0) hcur1]
        refine hRh _ v ?_
        rw [hhd]
        exact flat_get lenT (l.take i) j x q v (by rw [List.getElem?_take, if_pos hji]; exact hj) hv
      · rw [if_neg hji] at hj
        by_cases hje : j = i
        · rw [if_pos hje] at hj; cases hj
          subst hje
          rw [World.cell?_setCells_out _ _ _ W _ (fun _ _ => .inl (by show j * 5 + q < _; omega)), hWc]
          have := World.cell?_setCells_in w.heap.size (fT t) (j * 5) W1 (fun p hp => hN _ (by have : p < 5 := hp; omega)) q hq
          rw [this]; exact congrArg some (List.getElem?_eq_some_iff.1 hv).2
        · rw [if_neg hje] at hj
          have hin : (j - 1 - i) * 5 + q < tl.length := by rw [htll]; omega
          have := World.cell?_setCells_in w.heap.size tl ((i + 1) * 5) W (fun p hp => hW2 _ (by rw [htll] at hp; omega)) ((j - 1 - i) * 5 + q) hin
          rw [show (i + 1) * 5 + ((j - 1 - i) * 5 + q) = j * 5 + q by omega] at this
          rw [this]
          have h2 := flat_get lenT (l.drop i) (j - 1 - i) x q v (by rw [List.getElem?_drop, show i + (j - 1 - i) = j - 1 by omega]; exact hj) hv
          rw [← htl, List.getElem?_eq_getElem hin] at h2
          exact h2
    · have h5 := off_setCells w.heap.size tl ((i + 1) * 5) W
      have h6 := off_setCells w.heap.size (fT t) (i * 5) W1
      refine ⟨h5.os.trans h1, h5.tape.trans h2, h5.output.trans h3, Nat.le_trans h4 h5.size, fun k hk => ?_⟩
      rw [h5.block k (by omega) (by omega), hWh, h6.block k (by rw [hW1]; simp; omega) (by omega), hOld k hk]
  subst hW1
  have hdr : w.drew.alloc (.cells ROW 51) = (w.alloc (.cells ROW 51)).drew := rfl
  have hdc : ∀ (X : World) x, X.drew.cell? x = X.cell? x := fun _ _ => rfl
  have hdf : ∀ (X : World) x, X.drew.frozen? x = X.frozen? x := fun _ _ => rfl
  have hE1 : ∀ x, ((w.alloc (.cells ROW 51)).drew).cell? x = (w.drew.alloc (.cells ROW 51)).cell? x := fun x => by rw [hdr]
  have hE2 : ∀ x, ((w.alloc (.cells ROW 51)).drew).frozen? x = (w.drew.alloc (.cells ROW 51)).frozen? x := fun x => by rw [hdr]
  have hF1 : ∀ x, (((w.alloc (.cells ROW 51)).drew.setCells w.heap.size (i * 5) (fT t)).drew).cell? x = ((w.drew.alloc (.cells ROW 51)).setCells w.heap.size (i * 5) (fT t)).cell? x := fun x => by rw [hdr]; exact hdc _ x
  have hF2 : ∀ x, (((w.alloc (.cells ROW 51)).drew.setCells w.heap.size (i * 5) (fT t)).drew).frozen? x = ((w.drew.alloc (.cells ROW 51)).setCells w.heap.size (i * 5) (fT t)).frozen? x := fun x => by rw [hdr]; exact hdf _ x
  have hw1 : IntKind.i64.wrap ((i : Int) + 1) = (i : Int) + 1 := by rw [IntKind.wrap_i64]; omega
  have hw2 : IntKind.i64.wrap ((l.length : Int) + 1) = (l.length : Int) + 1 := by rw [IntKind.wrap_i64]; omega
  have hw3 : IntKind.i64.wrap ((l.length : Int) + 1 - (i : Int)) = (l.length : Int) + 1 - (i : Int) := by rw [IntKind.wrap_i64]; omega
  have hb1 : (0 : Int) ≤ (i : Int) + 1 := by omega
  have hin : (i : Int) ≤ (l.length : Int) := by omega
  have htn : ((i : Int) + 1).toNat = i + 1 := by omega
  have hb3 : (i : Int) ≤ (cap : Int) := by omega
  have hb4 : ¬ (cap = i) := by omega
  have hb5 : (i : Int) + 1 ≤ (l.length : Int) + 1 := by omega
  have hb7 : (cap : Int) < (l.length : Int) + 1 := by omega
  have hb8 : (i : Int) ≤ (l.length : Int) + 1 := by omega
  have hGi : ¬ (G = i) := by omega
  have hGim : ¬ (G = i + 1) := by omega
  have hz3 : ¬ ((i : Int) = (l.length : Int)) := by omega
  have hdh : ∀ (X : World) (x : Nat), X.drew.heap[x]? = X.heap[x]? := fun _ _ => rfl
  have hoS := off_setCells w.heap.size (fT t) (i * 5) (w.alloc (.cells ROW 51)).drew
  have hlS : w.heap.size ≤ (w.alloc (.cells ROW 51)).drew.heap.size := ((Below.refl w.heap.size w).alloc (Nat.le_refl _) _).size
  have key : ∀ X : World, X = (w.alloc (.cells ROW 51)).drew.setCells w.heap.size (i * 5) (fT t) → X.os = w.os → X.tape = w.tape → X.output = w.output → w.heap.size ≤ X.heap.size →
      OwnTb (X.drew.setCells w.heap.size ((i + 1) * 5) tl) B (.slice (some ⟨w.heap.size, 0, none⟩) (l.length + 1) G) (l.take i ++ t :: l.drop i) ∧ Below w.heap.size w (X.drew.setCells w.heap.size ((i + 1) * 5) tl) := fun X hX e1 e2 e3 e4 =>
    Hend.out X.drew (fun x => by rw [hdr, ← hX]; exact hdh X x) e1 e2 e3 e4
  have q1 : (w.alloc (.cells ROW 51)).drew.os = w.os := rfl
  have q2 : (w.alloc (.cells ROW 51)).drew.tape = w.tape := rfl
  have q3 : (w.alloc (.cells ROW 51)).drew.output = w.output := rfl
  have HendW := Lib.hid (key _ rfl (by rw [hoS.os, q1]) (by rw [hoS.tape, q2]) (by rw [hoS.output, q3]) (Nat.le_trans hlS hoS.size))
  clear key q1 q2 q3
  clear Hend hdh hoS hlS
  clear hdr hdc hdf
  clear hkk hik hold hO hall hhds htls hvs hv hRh hRs hcur hcur1 hN hNf hOld hOc htl hhd hcs hhdl htll hflen
  go_enter Tryz.func65, Tryz.ntmps65
  go_wp2_with (first
    | (at_builtin; refine Lib.wpList_append_run _ rfl _ _ _ _ rfl _ _ rfl rfl _ _ (hrz _) ?_)
    | (at_builtin; refine wpList_copy_runI _ rfl _ _ 22 22 rfl _ _ rfl rfl (hcpA _ hE1 hE2 _ _) ?_)
    | (at_builtin; refine wpList_copy_runI _ rfl _ _ 22 22 rfl _ _ rfl rfl (hcpB _ (fun _ => rfl) (fun _ => rfl) _ _ _) ?_))
  go_region_law (refine step_copy_runI rfl _ _ 22 22 rfl (.slice (some ⟨w.heap.size, (i + 1) * 5, none⟩) (l.length - i) (G - (i + 1))) (.slice (some ⟨g, i * 5, none⟩) (l.length - i) (cap - i)) (by simp [Act.eval, Act.put]) (by simp [Act.eval, Act.put]) (hcpB _ hF1 hF2 3 (G - (i + 1)) (cap - i)) ?_)
  go_wp2
  go_ret
  exact ⟨G, rfl, HendW.out.1, HendW.out.2⟩
set_option maxRecDepth 100000 in
set_option maxHeartbeats 4000000 in
theorem ins_end_any (v : Value) (vb : Nat) (l : List Tb) (t : Tb) (w : World) (B : Nat) (hO : OwnTb w B v l) (hl : l.length ≤ 1000000) (hBw : B ≤ w.heap.size)
    (hv : w.heap[vb]? = some (.cells (fT t).toArray 51 (0, 0))) :
    Calls Tryz.prog 65 #[v, .int .i64 (l.length : Int), .slice (some ⟨vb, 0, none⟩) 1 1] w fun e w' =>
      ∃ v', e = .returned v' ∧ OwnTb w' B v' (l ++ [t]) ∧ w.grownBy w' v.ownBlock := by
  have HO := Lib.hid hO
  obtain ⟨A, cap, rfl, hlc, hcm, hn⟩ := hO.form
  clear hO
  unfold maxLen at hcm
  have hvr : Hid (RowAt 5 fT w w.heap.size (some ⟨vb, 0, none⟩) [t]) := fun _ => ⟨vb, 0, rfl, (Array.getElem?_eq_some_iff.1 hv).1, fun j x hj i u hu => by
    cases j with
    | zero =>
      simp at hj; subst hj
      rw [cell_of_row w vb _ _ _ (0, 0) hv]
      simpa using hu
    | succ j => simp at hj⟩
  clear hv hn
  generalize hob : (Value.slice A l.length cap).ownBlock = ob
  have Hob := Lib.hid hob
  clear hob
  go_enter Tryz.func65, Tryz.ntmps65
  go_wp2_with (at_builtin; refine wpList_append_rows Tryz.underlying22 infoTb rfl (by decide) (by decide) lenT oneT rfl _ _ rfl B _ l (some ⟨vb, 0, none⟩) 1 1 [t] HO.out rfl rfl rfl (fun h => by cases h) hvr.out (by simp; omega) hBw ?_; intro v1 w1 ho1 hg1)
  all_goals (go_ret; exact ⟨_, rfl, ho1, by rw [← Hob.out]; exact hg1⟩)
/-- all roads -/
theorem tins_any (v : Value) (i vb : Nat) (l : List Tb) (t : Tb) (w : World) (B : Nat) (hO : OwnTb w B v l) (hi : i ≤ l.length) (hl : l.length ≤ 1000000) (hBw : B ≤ w.heap.size)
    (hne : v.ownBlock ≠ some vb) (hv : w.heap[vb]? = some (.cells (fT t).toArray 51 (0, 0))) :
    Calls Tryz.prog 65 #[v, .int .i64 (i : Int), .slice (some ⟨vb, 0, none⟩) 1 1] w fun e w' =>
      ∃ v', e = .returned v' ∧ OwnTb w' B v' (l.take i ++ t :: l.drop i) ∧ Off (fun x => v.ownBlock = some x) w w' := by
  by_cases he : i = l.length
  · subst he
    refine (ins_end_any v vb l t w B hO hl hBw hv).mono ?_
    rintro e w' ⟨v', rfl, h1, h2⟩
    exact ⟨v', rfl, by rw [List.take_length, List.drop_length]; exact h1, Off.of_grown h2⟩
  · obtain ⟨g, cap, rfl, hg1, hg2, hg3, hg4⟩ := hO.shape (by omega)
    by_cases hr : l.length + 1 ≤ cap
    · refine (ins_room_any g cap i vb l t w B hO (by omega) hr hl (fun e => hne (by rw [e]; rfl)) hv).mono ?_
      rintro e w' ⟨rfl, h1, h2⟩
      exact ⟨_, rfl, h1, h2.mono fun k _ hk => by rw [hk]; rfl⟩
    · refine (ins_grow_any g cap i vb l t w B hO (by omega) (by omega) hl hBw hv).mono ?_
      rintro e w' ⟨G, rfl, h1, h2⟩
      exact ⟨_, rfl, h1, .of_below h2⟩
end Go.Proofs.YthmjgaekcghonaaGreatDoor

/-
  Contract of package ddl's create.
-/
namespace Go.Proofs.YthmjgaekcghonaaGreatDoor
open Go.RowKit

theorem ins_count {t : Tp} : ∀ {L : List Tp}, L.Pairwise (Apart Tp.id Tp.nm) → (∀ x ∈ L, x.id ≠ t.id) →
    L.take (L.countP fun x => decide (x.id < t.id)) ++ t :: L.drop (L.countP fun x => decide (x.id < t.id)) = insT t L
  | [], _, _ => rfl
  | x :: r, hp, hn => by
    rw [List.pairwise_cons] at hp
    unfold insT
    have hx := hn x List.mem_cons_self
    by_cases h : t.id < x.id
    · rw [if_pos h]
      have e : (x :: r).countP (fun x => decide (x.id < t.id)) = 0 := by
        rw [List.countP_eq_zero]
        intro y hy
        rcases List.mem_cons.1 hy with rfl | hy
        · simp; omega
        · have := (hp.1 y hy).1
          simp; omega
      rw [e]; rfl
    · rw [if_neg h, ← ins_count hp.2 fun y hy => hn y (List.mem_cons_of_mem _ hy)]
      rw [List.countP_cons, show decide (x.id < t.id) = true by simp; omega]
      simp
theorem countP_p (l : List Tb) (id : Int) : (l.countP fun t => decide (t.id < id)) = (l.map Tb.p).countP fun x => decide (x.id < id) := by
  rw [List.countP_map]; rfl
theorem find_p (l : List Tb) (s : ByteArray) : (l.findIdx? fun x => eqS x.nm s) = findT (l.map Tb.p) s := by
  unfold findT
  rw [List.findIdx?_map]; rfl
theorem byId_p (l : List Tb) (id : Int) : (l.findIdx? fun x => x.id == id) = (l.map Tb.p).findIdx? fun t => t.id == id := by
  rw [List.findIdx?_map]; rfl
/-- where a catalog that a change made lies -/
def CatAt (w : World) (A : Option Addr) (cap : Nat) (l : List Tb) : Prop := TabsAt w w.heap.size A l ∧ l.length ≤ cap ∧ ∀ t ∈ l, t.cols.length ≤ t.cap
theorem own_ne {w : World} {B bx : Nat} {v x : Value} {l : List Tb} (h : OwnTb w B v l) (hb : w.heap[bx]? = some (.cells #[x] 24 (0, 0))) : v.ownBlock ≠ some bx := fun e => by
  rcases h.2 with ⟨rfl, _⟩ | ⟨g, cap, cur, rfl, _, hg, _⟩
  · cases e
  · simp [Value.ownBlock] at e
    subst e
    rw [hb] at hg
    simp at hg
theorem box_tabO (w : World) (t : Tb) : ∃ w0, w.alloc (.cells #[.int .i64 t.id, .string t.nm, .int .i64 t.key, .int .i64 t.nx, .slice t.A t.cols.length t.cap] 51) = w0 ∧ Below w.heap.size w w0 ∧ OwnTb w0 w.heap.size (.slice (some ⟨w.heap.size, 0, none⟩) 1 1) [t] ∧ w0.heap.size = w.heap.size + 1 :=
  ⟨_, rfl, below_one w _, OwnR.box _ _ fT lenT w t, by simp⟩
set_option maxRecDepth 100000 in
set_option maxHeartbeats 6000000 in
theorem create_any (bx : Nat) (A : Option Addr) (cap : Nat) (l : List Tb) (d : Db) (id : Int) (w : World) (B Bc : Nat) (ht : UTab w) (hO : OwnCat w B Bc (.slice A l.length cap) l) (hbx : w.heap[bx]? = some (.cells #[.slice A l.length cap] 24 (0, 0)))
    (hbn : ¬ InCat (.slice A l.length cap) l bx) (hD : DdlAt w w.heap.size d) (hBw : B ≤ w.heap.size) (hl : l.length ≤ 6) (hs : (l.map Tb.p).Pairwise (Apart Tp.id Tp.nm)) (hn : d.p.tb.size ≤ 1000000) (hw : ∀ c ∈ d.p.cols, c.nm.size ≤ 1000000) :
    Calls Tryz.prog 39 #[.pointer (some ⟨bx, 0, none⟩), DV d, .int .i64 id] w fun e w' => e = .returned (.int .i64 (createE (l.map Tb.p) d.p id)) ∧ Off (fun x => InCat (.slice A l.length cap) l x ∨ x = bx) w w' ∧
      (createE (l.map Tb.p) d.p id = 0 → ∃ A' cap' l', w'.cell? ⟨bx, 0, none⟩ = some (.slice A' l'.length cap') ∧ CatAt w' A' cap' l' ∧ l'.map Tb.p = insT (madeT d.p id) (l.map Tb.p)) := by
  have hbxw : bx < w.heap.size := (Array.getElem?_eq_some_iff.1 hbx).1
  obtain ⟨w0, hw0, hb0, hX, hs0⟩ := box_ddl w d
  have Hw0 := Lib.hid hw0; clear hw0
  have Hb0 := Lib.hid hb0
  have HO := Lib.hid hO; clear hO
  have HA0 := Lib.hid (HO.out.at.to hb0)
  have HD0 := Lib.hid (hD.to hb0); clear hD
  have HT := Lib.hid (ht.below hb0 (Nat.le_refl _)); clear ht
  have Hs0 := Lib.hid hs0; clear hs0
  have HX := Lib.hid hX
  have Hbx := Lib.hid hbx
  have Hbx0 : Hid (w0.heap[bx]? = some (.cells #[.slice A l.length cap] 24 (0, 0))) := (hb0.block bx hbxw).trans hbx
  clear hbx hb0
  have Hbn := Lib.hid hbn; clear hbn
  have Hsr := Lib.hid hs; clear hs
  have HWc := Lib.hid hw; clear hw
  have HN := Lib.hid (nright_any d.p.tb w0 hn)
  rw [← Hw0.out] at HN
  have HH := Lib.hid (fun w' hA' => hastab_any A cap l d.p.tb w' hA' (by omega))
  have HI := Lib.hid (fun w' hA' => hasid_any A cap l id w' hA' (by omega))
  rw [find_p] at HH
  rw [byId_p] at HI
  have Hlm : Hid ((l.map Tb.p).length = l.length) := List.length_map _
  have Hv : Hid (createE (l.map Tb.p) d.p id = if rightN (bs d.p.tb) = true then
    if (findT (l.map Tb.p) d.p.tb).isSome = true then 14 else if 6 ≤ l.length then 3 else if ((l.map Tb.p).findIdx? fun t => t.id == id).isSome = true then 24 else filE d.p
    else 8) := by show _ = _; unfold createE filE; rw [Hlm.out]; rfl
  have HnId : Hid (((l.map Tb.p).findIdx? fun t => t.id == id).isSome = false → ∀ x ∈ l.map Tb.p, x.id ≠ id) := fun h x hx e => by
    rw [Option.isSome_eq_false_iff, Option.isNone_iff_eq_none, List.findIdx?_eq_none_iff] at h
    have := h x hx
    rw [e] at this
    simp at this
  generalize createE (l.map Tb.p) d.p id = E at Hv ⊢
  generalize rightN (bs d.p.tb) = b1 at HN Hv
  generalize (findT (l.map Tb.p) d.p.tb).isSome = b2 at HH Hv
  generalize ((l.map Tb.p).findIdx? fun t => t.id == id).isSome = b3 at HI Hv HnId
  have HAd : Hid (TabsAt w0.drew w0.drew.heap.size A l) := HA0.out.below (Below.refl _ _).drew
  obtain ⟨x0, x1, x2, x3, x4, x5, x6, x7, x8, x9, x10, x11⟩ := hX.ddl
  clear hX
  cases b1
  · have He : Hid (E = 8) := Hv.out
    go_enter Tryz.func39, Tryz.ntmps39
    go_wp2_with fail
    refine HN.out.mono ?_
    rintro e w1 ⟨rfl, hb1⟩
    rw [Hw0.out] at hb1
    subst hb1
    go_wp2_with fail
    go_ret
    exact ⟨by rw [He.out]; rfl, .of_below Hb0.out, fun h => by rw [He.out] at h; cases h⟩
  have c0 : w0.cell? ⟨bx, 0, none⟩ = some (.slice A l.length cap) := by rw [cell_of_row w0 bx 0 _ _ (0, 0) Hbx0.out]; rfl
  have Hc0 := Lib.hid c0
  cases b2
  case true =>
    have He : Hid (E = 14) := Hv.out
    go_enter Tryz.func39, Tryz.ntmps39
    go_wp2_with fail
    refine HN.out.mono ?_
    rintro e w1 ⟨rfl, hb1⟩
    rw [Hw0.out] at hb1
    subst hb1
    go_wp2_with fail
    go_region_with (first
      | (go_at_call 62; refine (HH.out _ HAd.out).mono ?_; rintro e w2 ⟨rfl, hb2⟩; have Hb2 := Lib.hid (bthen Hb0.out ((Below.refl w0.heap.size w0).drew.trans hb2)); clear hb2)
      | fail)
    all_goals
      go_wp2_with fail
      go_ret
      exact ⟨by rw [He.out]; rfl, .of_below Hb2.out, fun h => by rw [He.out] at h; cases h⟩
  go_enter Tryz.func39, Tryz.ntmps39
  go_wp2_with fail
  refine HN.out.mono ?_
  rintro e w1 ⟨rfl, hb1⟩
  rw [Hw0.out] at hb1
  subst hb1
  go_wp2_with fail
  have hne : Nonempty (BelowBy w0.heap.size w0) := ⟨⟨w0, Below.refl _ _⟩⟩
  have P0 : ∀ p : BelowBy w0.heap.size w0, p.x.cell? ⟨bx, 0, none⟩ = some (.slice A l.length cap) := fun p => (p.h.cell (p := ⟨bx, 0, none⟩) (World.block_lt_of_cell? w0 _ Hc0.out)).trans Hc0.out
  have P1 : ∀ p : BelowBy w0.heap.size w0, p.x.cell? ⟨w.heap.size, 1, none⟩ = some (.string d.p.tb) := fun p => (HX.out.below p.h (by have := Hs0.out; omega)).ddl.2.1
  refine wp_region_below w0.heap.size (by kernel_rfl) (by kernel_rfl) ?_
  repeat (
    with_reducible refine wpQuiet_step (fun K hK => ?_)
    go_simp
    refine hK _ ?_
    clear hK K)
  with_reducible refine wpQuiet_step (fun K hK => ?_)
  go_simp
  apply Exists.intro
  refine ⟨fun p => ?_, hK _ ?_⟩
  exact (HH.out _ (HA0.out.to p.h)).mono fun e w5 ⟨he, hb⟩ => ⟨he, p.step (Nat.le_refl _) hb⟩
  clear hK K
  repeat (
    with_reducible refine wpQuiet_step (fun K hK => ?_)
    go_simp
    refine hK _ ?_
    clear hK K)
  refine wpQuiet_nil ?_
  rintro _ ⟨p, rfl⟩
  have Hb2 := Lib.hid p.h
  generalize p.x = w2 at Hb2 ⊢
  clear P0 P1 hne p
  all_goals
    clear c0 x0 x1 x2 x3 x4 x5 x6 x7 x8 x9 x10 x11
    have c0 := (Hb2.out.cell (p := ⟨bx, 0, none⟩) (World.block_lt_of_cell? w0 _ Hc0.out)).trans Hc0.out
    have HX2 := Lib.hid (HX.out.below Hb2.out (by have := Hs0.out; omega))
    obtain ⟨x0, x1, x2, x3, x4, x5, x6, x7, x8, x9, x10, x11⟩ := HX2.out.ddl
    by_cases h6 : l.length = 6
    · have He : Hid (E = 3) := by show _ = _; rw [Hv.out]; simp [h6]
      have hq : ((l.length : Int) == 6) = true := by rw [beq_iff_eq]; omega
      have HbE := Lib.hid (bthen Hb0.out Hb2.out)
      clear h6 hl
      go_wp2_with fail
      go_ret
      exact ⟨by rw [He.out]; rfl, .of_below HbE.out, fun h => by rw [He.out] at h; cases h⟩
    have hq : ((l.length : Int) == 6) = false := by rw [beq_eq_false_iff_ne]; omega
    have Hv2 : Hid (E = if b3 = true then 24 else filE d.p) := by show _ = _; rw [Hv.out]; simp [show ¬ 6 ≤ l.length by omega]
    have hl5 : l.length ≤ 5 := by omega
    clear h6 hl
    have HI2 := Lib.hid (HI.out w2 (HA0.out.to Hb2.out))
    cases b3
    case true =>
      have He : Hid (E = 24) := Hv2.out
      go_wp2_with fail
      refine HI2.out.mono ?_
      rintro e w3 ⟨rfl, hb3⟩
      have HbE := Lib.hid (bthen (bthen Hb0.out Hb2.out) hb3); clear hb3
      go_wp2_with fail
      go_ret
      exact ⟨by rw [He.out]; rfl, .of_below HbE.out, fun h => by rw [He.out] at h; cases h⟩
    have He : Hid (E = filE d.p) := Hv2.out
    clear Hv2
    go_wp2_with fail
    refine HI2.out.mono ?_
    rintro e w3 ⟨rfl, hb3⟩
    have Hb3 := Lib.hid (bthen Hb2.out hb3)
    have Hbw3 := Lib.hid (bthen (bthen Hb0.out Hb2.out) hb3)
    clear hb3 c0 x0 x1 x2 x3 x4 x5 x6 x7 x8 x9 x10 x11
    have HX3 := Lib.hid (HX.out.below Hb3.out (by have := Hs0.out; omega))
    obtain ⟨x0, x1, x2, x3, x4, x5, x6, x7, x8, x9, x10, x11⟩ := HX3.out.ddl
    obtain ⟨w4, hw4, hb4, hT4, hs4⟩ := box_tabO w3 ⟨id, d.p.tb, 0, 0, none, 0, []⟩
    have Hw4 := Lib.hid hw4; clear hw4
    have Hs4 := Lib.hid hs4; clear hs4
    have hu3 := (HT.out.below Hb3.out (Nat.le_refl _)).pos
    have HFi := Lib.hid (fill_any w3.heap.size ⟨id, d.p.tb, 0, 0, none, 0, []⟩ d w4 ((HT.out.below Hb3.out (Nat.le_refl _)).below hb4 (Nat.le_refl _)) hT4 rfl rfl hu3 rfl rfl (RowAt.below (HD0.out.to Hb3.out) hb4) HWc.out)
    rw [← Hw4.out] at HFi
    have Hbw4 := Lib.hid (bthen Hbw3.out hb4)
    clear hb4 hT4 hu3
    have Hsz3 : Hid (w.heap.size ≤ w3.heap.size) := Hbw3.out.size
    have k0 := fun o => keep_alloc x0 o
    have k1 := fun o => keep_alloc x1 o
    have k2 := fun o => keep_alloc x2 o
    have k3 := fun o => keep_alloc x3 o
    have k4 := fun o => keep_alloc x4 o
    have k5 := fun o => keep_alloc x5 o
    have k6 := fun o => keep_alloc x6 o
    have k7 := fun o => keep_alloc x7 o
    have k8 := fun o => keep_alloc x8 o
    have k9 := fun o => keep_alloc x9 o
    have k10 := fun o => keep_alloc x10 o
    have k11 := fun o => keep_alloc x11 o
    go_wp2_with fail
    refine HFi.out.mono ?_
    rintro e w5 ⟨rfl, hb5, hok⟩
    rw [Hw4.out] at hb5
    have Hb5 := Lib.hid (Hbw4.out.trans (hb5.mono Hsz3.out))
    have Hok := Lib.hid hok
    clear hb5 hok
    generalize filE d.p = F at Hok He ⊢
    clear k0 k1 k2 k3 k4 k5 k6 k7 k8 k9 k10 k11 x0 x1 x2 x3 x4 x5 x6 x7 x8 x9 x10 x11
    by_cases hF : F = 0
    · obtain ⟨A', cap', Bc5, hb51, hb52, hbo⟩ := Hok.out hF
      have HBo := Lib.hid hbo
      clear hbo
      subst hF
      obtain ⟨T, hT⟩ : ∃ T : Tb, T = ⟨id, d.p.tb, (((colP d.p.cols d.p.key).getD 0 : Nat) : Int), (d.p.cols.length : Int), A', cap', numd d.p.cols⟩ := ⟨_, rfl⟩
      rw [← hT] at HBo
      have HTp : Hid (T.p = madeT d.p id) := by show _ = _; rw [hT]; rfl
      clear hT Hok
      have Hbx5 : Hid (w5.heap[bx]? = some (.cells #[.slice A l.length cap] 24 (0, 0))) := (Hb5.out.block bx hbxw).trans Hbx.out
      have HO5 := Lib.hid (HO.out.below Hb5.out)
      have HA5 := Lib.hid (HO5.out.at)
      have Hcnt := Lib.hid (Nat.le_trans List.countP_le_length (Nat.le_refl l.length) : l.countP (fun t : Tb => decide (t.id < id)) ≤ l.length)
      have HnI := Lib.hid (HnId.out trivial)
      have Hins : Hid ((l.take (l.countP fun t => decide (t.id < id)) ++ T :: l.drop (l.countP fun t => decide (t.id < id))).map Tb.p = insT (madeT d.p id) (l.map Tb.p)) := by
        show _ = _
        rw [← ins_count Hsr.out (fun x hx => HnI.out x hx), List.map_append, List.map_cons, List.map_take, List.map_drop, HTp.out, countP_p]
        rfl
      have HBf := Lib.hid (fun X (hX : Below w5.heap.size w5 X) => before_any A cap l id X (HA5.out.to hX) (by omega))
      generalize l.countP (fun t : Tb => decide (t.id < id)) = i at Hcnt Hins HBf
      have HIn : Hid (∀ X vb, Below w5.heap.size w5 X → X.heap[vb]? = some (.cells (fT T).toArray 51 (0, 0)) → w5.heap.size ≤ vb →
          Calls Tryz.prog 65 #[.slice A l.length cap, .int .i64 (i : Int), .slice (some ⟨vb, 0, none⟩) 1 1] X fun e w6 => ∃ A6 cap6, e = .returned (.slice A6 (l.length + 1) cap6) ∧
            OwnTb w6 B (.slice A6 (l.length + 1) cap6) (l.take i ++ T :: l.drop i) ∧ Off (fun x => (Value.slice A l.length cap).ownBlock = some x) w5 w6 ∧ l.length + 1 ≤ cap6) := fun X vb hX hv hvb => by
        refine (tins_any (.slice A l.length cap) i vb l T X B (HO5.out.row.below hX) Hcnt.out (by omega) ?_ (fun e => ?_) hv).mono ?_
        · have h2 := hX.size
          have h3 := Hb5.out.size
          omega
        · have := (HO5.out.row.lt vb e).2; omega
        · rintro e w6 ⟨v', rfl, h1, h2⟩
          obtain ⟨A6, cap6, rfl, h3, _, _⟩ := h1.form
          have hle : (l.take i ++ T :: l.drop i).length = l.length + 1 := by simp; have := Hcnt.out; omega
          rw [hle] at h1 h3 ⊢
          exact ⟨A6, cap6, rfl, h1, Off.behind hX h2, h3⟩
      obtain ⟨e0, e1, e2, e3, e4⟩ := HBo.out.cells
      have c0 : w5.cell? ⟨bx, 0, none⟩ = some (.slice A l.length cap) := by rw [cell_of_row w5 bx 0 _ _ (0, 0) Hbx5.out]; rfl
      have k0 := fun o => keep_alloc c0 o
      have Hc5 := Lib.hid c0
      have Hbc : Hid (∀ X, Below w5.heap.size w5 X → X.cell? ⟨bx, 0, none⟩ = some (.slice A l.length cap) ∧ X.cell? ⟨w3.heap.size, 0, none⟩ = some (.int .i64 T.id) ∧ X.cell? ⟨w3.heap.size, 1, none⟩ = some (.string T.nm) ∧ X.cell? ⟨w3.heap.size, 2, none⟩ = some (.int .i64 T.key) ∧ X.cell? ⟨w3.heap.size, 3, none⟩ = some (.int .i64 T.nx) ∧ X.cell? ⟨w3.heap.size, 4, none⟩ = some (.slice T.A T.cols.length T.cap)) := fun X hX => by
        obtain ⟨f0, f1, f2, f3, f4⟩ := (HBo.out.below hX).cells
        exact ⟨(hX.cell (p := ⟨bx, 0, none⟩) (World.block_lt_of_cell? w5 _ Hc5.out)).trans Hc5.out, f0, f1, f2, f3, f4⟩
      have Hend : Hid (∀ A6 cap6 w6, OwnTb w6 B (.slice A6 (l.length + 1) cap6) (l.take i ++ T :: l.drop i) → Off (fun x => (Value.slice A l.length cap).ownBlock = some x) w5 w6 → l.length + 1 ≤ cap6 →
          w6.cell? ⟨bx, 0, none⟩ = some (.slice A l.length cap) ∧ w6.frozen? ⟨bx, 0, none⟩ = false ∧ Off (fun x => InCat (.slice A l.length cap) l x ∨ x = bx) w (w6.setCell ⟨bx, 0, none⟩ (.slice A6 (l.length + 1) cap6)) ∧
          ∃ A' cap' l', (w6.setCell ⟨bx, 0, none⟩ (.slice A6 (l.length + 1) cap6)).cell? ⟨bx, 0, none⟩ = some (.slice A' l'.length cap') ∧ CatAt (w6.setCell ⟨bx, 0, none⟩ (.slice A6 (l.length + 1) cap6)) A' cap' l' ∧ l'.map Tb.p = insT (madeT d.p id) (l.map Tb.p)) := fun A6 cap6 w6 h1 h2 h3 => by
        have hnb : (Value.slice A l.length cap).ownBlock ≠ some bx := fun e => Hbn.out (.inl e)
        have hbw5 : bx < w5.heap.size := Nat.lt_of_lt_of_le hbxw Hb5.out.size
        have hb6 : w6.heap[bx]? = some (.cells #[.slice A l.length cap] 24 (0, 0)) := (h2.block bx hbw5 hnb).trans Hbx5.out
        have hc6 : w6.cell? ⟨bx, 0, none⟩ = some (.slice A l.length cap) := by rw [cell_of_row w6 bx 0 _ _ (0, 0) hb6]; rfl
        have hne6 := own_ne h1 hb6
        have hle : (l.take i ++ T :: l.drop i).length = l.length + 1 := by simp; have := Hcnt.out; omega
        have hof := Off.set w6 bx 0 (.slice A6 (l.length + 1) cap6)
        refine ⟨hc6, frozen_of_row w6 bx 0 _ _ hb6, ?_, A6, cap6, l.take i ++ T :: l.drop i, ?_, ⟨⟨?_, ?_⟩, by omega, ?_⟩, Hins.out⟩
        · exact (Off.behind Hb5.out (h2.mono fun x _ e => .inl (.inl e))).trans (hof.mono fun x _ e => .inr e)
        · rw [hle]; exact World.cell?_setCell_same _ _ _ hc6
        · exact (OwnR.off h1 hof (fun x hx e => hne6 (by rw [hx, e]))).at lenT
        · intro t ht
          rcases List.mem_append.1 ht with hm | hm
          · have htl := List.mem_of_mem_take hm
            refine (OwnR.off (OwnR.off (HO5.out.cols t htl) h2 fun x hx e => ?_) hof fun x hx e => ?_).at lenC
            · have := ((HO5.out.cols t htl).lt x hx).1
              have := HO5.out.ahead x e
              omega
            · exact Hbn.out (.inr ⟨t, htl, hx.trans (congrArg some e)⟩)
          · rcases List.mem_cons.1 hm with rfl | hm
            · refine (OwnR.off (OwnR.off HBo.out.2 h2 fun x hx e => ?_) hof fun x hx e => ?_).at lenC
              · have := (HBo.out.2.lt x hx).1
                have := (HO.out.row.lt x e).2
                have := Hsz3.out
                omega
              · have := (HBo.out.2.lt x hx).1
                have := Hsz3.out
                omega
            · have htl := List.mem_of_mem_drop hm
              refine (OwnR.off (OwnR.off (HO5.out.cols t htl) h2 fun x hx e => ?_) hof fun x hx e => ?_).at lenC
              · have := ((HO5.out.cols t htl).lt x hx).1
                have := HO5.out.ahead x e
                omega
              · exact Hbn.out (.inr ⟨t, htl, hx.trans (congrArg some e)⟩)
        · intro t ht
          have fits : ∀ {W : World} {b : Nat} {u : Tb}, OwnC W b (.slice u.A u.cols.length u.cap) u.cols → u.cols.length ≤ u.cap := fun {W b u} h => by
            obtain ⟨A9, cap9, e, h9, _⟩ := h.form
            injection e with _ _ e3
            omega
          rcases List.mem_append.1 ht with hm | hm
          · exact fits (HO5.out.cols t (List.mem_of_mem_take hm))
          · rcases List.mem_cons.1 hm with rfl | hm
            · exact fits HBo.out.2
            · exact fits (HO5.out.cols t (List.mem_of_mem_drop hm))
      clear HBo HTp HO5 HA5 Hcnt HnI Hins Hbx5 HFi Hw4 Hs4 Hbw4 Hsz3 HX3 Hb3 Hbw3 HX2 HI2 Hb2 HAd Hv HnId Hlm HI HH HN HWc Hsr Hbn Hbx0 Hbx HX Hs0 HT HD0 HA0 HO Hb0 Hw0 Hc5
      have m0 := fun o => keep_alloc e0 o
      have m1 := fun o => keep_alloc e1 o
      have m2 := fun o => keep_alloc e2 o
      have m3 := fun o => keep_alloc e3 o
      have m4 := fun o => keep_alloc e4 o
      go_wp2_with fail
      go_region_with (first
        | (go_at_call 66; refine (HBf.out _ (by go_grown)).mono ?_; rintro e w6 ⟨rfl, hb6⟩; have Hv6 := Lib.hid (fun o (ho : _ = some o) => (hb6.block w5.heap.size (Array.getElem?_eq_some_iff.1 ho).1).trans ho); have Hb6 := Lib.hid (show Below w5.heap.size w5 w6 from bthen (by go_grown) hb6); clear hb6; obtain ⟨g0, g1, g2, g3, g4, g5⟩ := Hbc.out w6 Hb6.out; have n0 := fun o => keep_alloc g0 o)
        | (go_at_call 65; with_reducible change Calls Tryz.prog _ #[_, _, .slice (some ⟨w6.heap.size, 0, none⟩) 1 1] (World.alloc w6 _) _; have hq1 := HIn.out (w6.alloc (.cells #[.int .i64 T.id, .string T.nm, .int .i64 T.key, .int .i64 T.nx, .slice T.A T.cols.length T.cap] 51)) w6.heap.size (bthen Hb6.out (below_one w6 _)); have hq2 := hq1 (heap_alloc_new w6 _) Hb6.out.size; clear hq1; refine hq2.mono ?_; clear hq2; rintro e w7 ⟨A6, cap6, rfl, h1, h2, h3⟩; have HE := Lib.hid (Hend.out A6 cap6 w7 h1 h2 h3); clear h1 h2 h3; have z0 := HE.out.1; have z1 := HE.out.2.1)
        | (go_at_call 65; have hq1 := HIn.out w6 w5.heap.size Hb6.out; have hq2 := hq1 (Hv6.out _ (heap_alloc_new w5 (.cells #[.int .i64 T.id, .string T.nm, .int .i64 T.key, .int .i64 T.nx, .slice T.A T.cols.length T.cap] 51))) (Nat.le_refl _); clear hq1; refine hq2.mono ?_; clear hq2; rintro e w7 ⟨A6, cap6, rfl, h1, h2, h3⟩; have HE := Lib.hid (Hend.out A6 cap6 w7 h1 h2 h3); clear h1 h2 h3; have z0 := HE.out.1; have z1 := HE.out.2.1)
        | fail)
      all_goals
        go_wp2_with fail
        go_ret
        exact ⟨by rw [He.out]; rfl, HE.out.2.2.1, fun _ => HE.out.2.2.2⟩
    · have HF := Lib.hid hF
      have hz0 : (F == 0) = false := by simpa using hF
      have hz1 : (F != 0) = true := by rw [bne, hz0]; rfl
      clear hF
      go_wp2_with fail
      go_ret
      exact ⟨by rw [He.out]; rfl, .of_below Hb5.out, fun h => absurd (He.out.symm.trans h) HF.out⟩
end Go.Proofs.YthmjgaekcghonaaGreatDoor
