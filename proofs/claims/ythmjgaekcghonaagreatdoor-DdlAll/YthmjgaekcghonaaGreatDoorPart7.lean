/-
  Texts that the proof needs, one behind the other: DdlColC, DdlCutC, DdlChcolC, DdlChangeC, DdlPlainC, DdlPlain2C.
-/
import Derived.Test.YthmjgaekcghonaaGreatDoorPart1
import Derived.Test.YthmjgaekcghonaaGreatDoorPart2
import Derived.Test.YthmjgaekcghonaaGreatDoorPart3
import Derived.Test.YthmjgaekcghonaaGreatDoorPart4
import Derived.Test.YthmjgaekcghonaaGreatDoorPart5
import Derived.Test.YthmjgaekcghonaaGreatDoorPart6

/-
  Contracts of package ddl's changes of a column: preset, widen, call, cut.
-/
namespace Go.Proofs.YthmjgaekcghonaaGreatDoor
open Go.RowKit

theorem box_v (w : World) (k n : Int) (s : ByteArray) : ∃ w0, w.alloc (.cells #[.int .i64 k, .int .i64 n, .string s] 28) = w0 ∧ Below w.heap.size w w0 ∧ w0.heap.size = w.heap.size + 1 ∧
    BlkN w0 w.heap.size [.int .i64 k, .int .i64 n, .string s] :=
  ⟨_, rfl, below_one w _, by simp, BlkN.new w _ [.int .i64 k, .int .i64 n, .string s] _ rfl⟩
theorem box_t (w : World) (k m : Int) : ∃ w0, w.alloc (.cells #[.int .i64 k, .int .i64 m] 26) = w0 ∧ Below w.heap.size w w0 ∧ w0.heap.size = w.heap.size + 1 ∧
    BlkN w0 w.heap.size [.int .i64 k, .int .i64 m] :=
  ⟨_, rfl, below_one w _, by simp, BlkN.new w _ [.int .i64 k, .int .i64 m] _ rfl⟩
theorem BlkN.v3 {w : World} {b : Nat} {x y z : Value} (h : BlkN w b [x, y, z]) : w.cell? ⟨b, 0, none⟩ = some x ∧ w.cell? ⟨b, 1, none⟩ = some y ∧ w.cell? ⟨b, 2, none⟩ = some z := ⟨h 0 _ rfl, h 1 _ rfl, h 2 _ rfl⟩
theorem BlkN.v2 {w : World} {b : Nat} {x y : Value} (h : BlkN w b [x, y]) : w.cell? ⟨b, 0, none⟩ = some x ∧ w.cell? ⟨b, 1, none⟩ = some y := ⟨h 0 _ rfl, h 1 _ rfl⟩
/-- a Default stored in its place -/
theorem OwnR.setD {w : World} {B g cap j : Nat} {l : List Cb} {c : Cb} (h : OwnC w B (.slice (some ⟨g, 0, none⟩) l.length cap) l) (hj : l[j]? = some c) (k n : Int) (s : ByteArray) :
    OwnC (((w.setCell ⟨g, j * 8 + 5, none⟩ (.int .i64 k)).setCell ⟨g, j * 8 + 6, none⟩ (.int .i64 n)).setCell ⟨g, j * 8 + 7, none⟩ (.string s)) B (.slice (some ⟨g, 0, none⟩) l.length cap) (l.set j { c with dk := k, dn := n, ds := s }) := by
  have hl := (List.getElem?_eq_some_iff.1 hj).1
  have h1 := h.set1 lenC (k := j) (i := 5) (x := c) (y := { c with dk := k }) (u := .int .i64 k) hj (by omega) rfl
  rw [show l.length = (l.set j { c with dk := k }).length by simp] at h1
  have h2 := h1.set1 lenC (k := j) (i := 6) (x := { c with dk := k }) (y := { c with dk := k, dn := n }) (u := .int .i64 n) (List.getElem?_set_self hl) (by omega) rfl
  rw [List.set_set, List.length_set] at h2
  rw [show l.length = (l.set j { c with dk := k, dn := n }).length by simp] at h2
  have h3 := h2.set1 lenC (k := j) (i := 7) (x := { c with dk := k, dn := n }) (y := { c with dk := k, dn := n, ds := s }) (u := .string s) (List.getElem?_set_self hl) (by omega) rfl
  rw [List.set_set, List.length_set] at h3
  exact h3
theorem OwnR.setT {w : World} {B g cap j : Nat} {l : List Cb} {c : Cb} (h : OwnC w B (.slice (some ⟨g, 0, none⟩) l.length cap) l) (hj : l[j]? = some c) (k m : Int) :
    OwnC ((w.setCell ⟨g, j * 8 + 2, none⟩ (.int .i64 k)).setCell ⟨g, j * 8 + 3, none⟩ (.int .i64 m)) B (.slice (some ⟨g, 0, none⟩) l.length cap) (l.set j { c with tk := k, tm := m }) := by
  have hl := (List.getElem?_eq_some_iff.1 hj).1
  have h1 := h.set1 lenC (k := j) (i := 2) (x := c) (y := { c with tk := k }) (u := .int .i64 k) hj (by omega) rfl
  rw [show l.length = (l.set j { c with tk := k }).length by simp] at h1
  have h2 := h1.set1 lenC (k := j) (i := 3) (x := { c with tk := k }) (y := { c with tk := k, tm := m }) (u := .int .i64 m) (List.getElem?_set_self hl) (by omega) rfl
  rw [List.set_set, List.length_set] at h2
  exact h2
theorem off_set3 (w : World) (g a b c : Nat) (x y z : Value) : Off (fun k => k = g) w (((w.setCell ⟨g, a, none⟩ x).setCell ⟨g, b, none⟩ y).setCell ⟨g, c, none⟩ z) := ((Off.set w g a x).trans (Off.set _ g b y)).trans (Off.set _ g c z)
def presE (c : Cb) (k n : Int) (s : ByteArray) : Int := if presetD c.tk c.tm k n s = true then 0 else 10
def widE (c : Cb) (tk tm : Int) : Int := if rightT tk tm = true then (if wideT tk tm c.tk c.tm = true then 0 else 16) else 9
set_option maxRecDepth 100000 in
set_option maxHeartbeats 4000000 in
theorem preset_any (g cap j : Nat) (l : List Cb) (c : Cb) (k n : Int) (s : ByteArray) (w : World) (B : Nat) (ht : UTab w) (hO : OwnC w B (.slice (some ⟨g, 0, none⟩) l.length cap) l) (hj : l[j]? = some c) :
    Calls Tryz.prog 74 #[.pointer (some ⟨g, j * 8, none⟩), VV k n s] w fun e w' => e = .returned (.int .i64 (presE c k n s)) ∧ (presE c k n s ≠ 0 → Below w.heap.size w w') ∧
      (presE c k n s = 0 → Off (fun x => x = g) w w' ∧ OwnC w' B (.slice (some ⟨g, 0, none⟩) l.length cap) (l.set j { c with dk := k, dn := n, ds := s })) := by
  obtain ⟨w0, hw0, hb0, hs0, hX⟩ := box_v w k n s
  have Hw0 := Lib.hid hw0; clear hw0
  have Hb0 := Lib.hid hb0
  have HO0 := Lib.hid (hO.below hb0); clear hO
  have HT := Lib.hid (ht.below hb0 (Nat.le_refl _)); clear ht hb0
  have HX := Lib.hid hX
  have Hs0 := Lib.hid hs0; clear hs0
  have Hj := Lib.hid hj; clear hj
  have HF := Lib.hid (fun w ht => rdef_any c.tk c.tm k n s w ht)
  have HTd : Hid (UTab w0.drew) := HT.out.drew
  obtain ⟨x0, x1, x2⟩ := hX.v3
  clear hX
  obtain ⟨d0, d1, d2, d3, d4, d5, d6, d7⟩ := col_cells HO0.out rfl Hj.out
  have Hv : Hid (presE c k n s = if presetD c.tk c.tm k n s = true then 0 else 10) := rfl
  generalize presE c k n s = E at Hv ⊢
  generalize presetD c.tk c.tm k n s = b at HF Hv
  cases b
  · have He : Hid (E = 10) := Hv.out
    go_enter Tryz.func74, Tryz.ntmps74
    go_wp2_with fail
    rw [Hw0.out]
    go_region_with (first
      | (go_at_call 92; refine (HF.out _ HTd.out).mono ?_; rintro e w2 ⟨rfl, hb2⟩; have Hb2 := Lib.hid ((Below.refl w0.heap.size w0).drew.trans hb2); clear hb2)
      | fail)
    all_goals
      have Hb3 := Lib.hid (bthen Hb0.out Hb2.out)
      go_wp2_with fail
      go_ret
      exact ⟨by rw [He.out]; rfl, fun _ => Hb3.out, fun h => by rw [He.out] at h; cases h⟩
  · have He : Hid (E = 0) := Hv.out
    go_enter Tryz.func74, Tryz.ntmps74
    go_wp2_with fail
    rw [Hw0.out]
    go_region_with (first
      | (go_at_call 92; refine (HF.out _ HTd.out).mono ?_; rintro e w2 ⟨rfl, hb2⟩; have Hb2 := Lib.hid ((Below.refl w0.heap.size w0).drew.trans hb2); clear hb2)
      | fail)
    all_goals
      clear x0 x1 x2 d0 d1 d2 d3 d4 d5 d6 d7
      have Hb3 := Lib.hid (bthen Hb0.out Hb2.out)
      have HO2 := Lib.hid (HO0.out.below Hb2.out)
      obtain ⟨x0, x1, x2⟩ := (HX.out.below Hb2.out (by have := Hs0.out; omega)).v3
      obtain ⟨d0, d1, d2, d3, d4, d5, d6, d7⟩ := col_cells HO2.out rfl Hj.out
      have f5 := HO2.out.frozen (j * 8 + 5)
      have f6 := HO2.out.frozen (j * 8 + 6)
      have f7 := HO2.out.frozen (j * 8 + 7)
      have HE := Lib.hid (HO2.out.setD Hj.out k n s)
      have HoE := Lib.hid (Off.behind Hb3.out (off_set3 w2 g (j * 8 + 5) (j * 8 + 6) (j * 8 + 7) (.int .i64 k) (.int .i64 n) (.string s)))
      go_wp2_with fail
      go_ret
      exact ⟨by rw [He.out]; rfl, fun h => absurd He.out h, fun _ => ⟨HoE.out, HE.out⟩⟩
theorem cast_ok {c : Cb} {tk tm : Int} (hc : presetD c.tk c.tm c.dk c.dn c.ds = true) (hw : wideT tk tm c.tk c.tm = true) (h1 : -9223372036854775808 ≤ c.dn) (h2 : c.dn < 9223372036854775808) :
    castR c.dk c.dn c.ds tk tm = .tuple #[VV (castC tk tm c).dk (castC tk tm c).dn (castC tk tm c).ds, .int .i64 0] ∧ (castC tk tm c) = { c with tk := tk, tm := tm, dk := (castC tk tm c).dk, dn := (castC tk tm c).dn, ds := (castC tk tm c).ds } := by
  have hr : rightT tk tm = true := by unfold wideT at hw; simp only [Bool.and_eq_true] at hw; exact hw.1.1.1
  unfold castC
  by_cases hn : nulV c.dk c.dn c.ds = true
  · rw [if_pos hn]
    refine ⟨?_, rfl⟩
    have hn' := hn
    unfold nulV at hn'
    rw [Bool.and_eq_true, Bool.and_eq_true] at hn'
    obtain ⟨e1, e2, e3⟩ := hn'
    rw [beq_iff_eq] at e1 e2
    rw [e1, e2, eqS_iff.1 e3]
    unfold castR
    rw [show rightV 0 0 (bs ByteArray.empty) = true by unfold rightV; rfl, hr]
    rfl
  · rw [if_neg hn]
    refine ⟨?_, rfl⟩
    unfold presetD at hc
    simp only [Bool.or_eq_true] at hc
    rcases hc with h | h
    · exact absurd h hn
    · exact (widen hw h h1 h2).1
theorem boxA {w2 w3 : World} (h : Below w2.heap.size w2 w3) {a' b' c' : Value} (y0 : w3.cell? ⟨w2.heap.size, 0, none⟩ = some a') (y1 : w3.cell? ⟨w2.heap.size, 1, none⟩ = some b') (y2 : w3.cell? ⟨w2.heap.size, 2, none⟩ = some c') (a b c : Value) :
    ∃ W, ((w3.setCell ⟨w2.heap.size, 0, none⟩ a).setCell ⟨w2.heap.size, 1, none⟩ b).setCell ⟨w2.heap.size, 2, none⟩ c = W ∧ Below w2.heap.size w2 W ∧ W.cell? ⟨w2.heap.size, 0, none⟩ = some a ∧ W.cell? ⟨w2.heap.size, 1, none⟩ = some b ∧ W.cell? ⟨w2.heap.size, 2, none⟩ = some c := by
  have n01 : (⟨w2.heap.size, 0, none⟩ : Addr) ≠ ⟨w2.heap.size, 1, none⟩ := by simp
  have n02 : (⟨w2.heap.size, 0, none⟩ : Addr) ≠ ⟨w2.heap.size, 2, none⟩ := by simp
  have n12 : (⟨w2.heap.size, 1, none⟩ : Addr) ≠ ⟨w2.heap.size, 2, none⟩ := by simp
  refine ⟨_, rfl, bput (bput (bput h (Nat.le_refl _) 0 a) (Nat.le_refl _) 1 b) (Nat.le_refl _) 2 c, ?_, ?_, ?_⟩
  · rw [World.cell?_setCell_other _ _ _ _ n02.symm, World.cell?_setCell_other _ _ _ _ n01.symm, World.cell?_setCell_same _ _ _ y0]
  · rw [World.cell?_setCell_other _ _ _ _ n12.symm, World.cell?_setCell_same _ _ _ (by rw [World.cell?_setCell_other _ _ _ _ n01]; exact y1)]
  · rw [World.cell?_setCell_same _ _ _ (by rw [World.cell?_setCell_other _ _ _ _ n12, World.cell?_setCell_other _ _ _ _ n02]; exact y2)]
theorem boxB {w2 w3 : World} (h : Below w2.heap.size w2 w3) (a b c : Value) :
    ∃ W, w3.alloc (.cells #[a, b, c] 28) = W ∧ Below w2.heap.size w2 W ∧ W.cell? ⟨w3.heap.size, 0, none⟩ = some a ∧ W.cell? ⟨w3.heap.size, 1, none⟩ = some b ∧ W.cell? ⟨w3.heap.size, 2, none⟩ = some c :=
  ⟨_, rfl, bthen h (below_one w3 _), by simp, by simp, by simp⟩
set_option maxRecDepth 100000 in
set_option maxHeartbeats 8000000 in
theorem widen_any (g cap j : Nat) (l : List Cb) (c : Cb) (tk tm : Int) (w : World) (B : Nat) (ht : UTab w) (hO : OwnC w B (.slice (some ⟨g, 0, none⟩) l.length cap) l) (hj : l[j]? = some c)
    (hc : presetD c.tk c.tm c.dk c.dn c.ds = true) (h1 : -9223372036854775808 ≤ c.dn) (h2 : c.dn < 9223372036854775808) :
    Calls Tryz.prog 73 #[.pointer (some ⟨g, j * 8, none⟩), TT tk tm] w fun e w' => e = .returned (.int .i64 (widE c tk tm)) ∧ (widE c tk tm ≠ 0 → Below w.heap.size w w') ∧
      (widE c tk tm = 0 → Off (fun x => x = g) w w' ∧ OwnC w' B (.slice (some ⟨g, 0, none⟩) l.length cap) (l.set j (castC tk tm c))) := by
  obtain ⟨w0, hw0, hb0, hs0, hX⟩ := box_t w tk tm
  have Hw0 := Lib.hid hw0; clear hw0
  have Hb0 := Lib.hid hb0
  have Hgw := Lib.hid (show g < w.heap.size from (hO.lt g rfl).2)
  have HO0 := Lib.hid (hO.below hb0); clear hO
  have HT := Lib.hid (ht.below hb0 (Nat.le_refl _)); clear ht hb0
  have HX := Lib.hid hX
  have Hs0 := Lib.hid hs0; clear hs0
  have Hj := Lib.hid hj; clear hj
  have HR := Lib.hid (tright_any tk tm w0)
  rw [← Hw0.out] at HR
  have HWi := Lib.hid (fun w => twide_any tk tm c.tk c.tm w)
  have HC := Lib.hid (fun w ht => tcast_any c.dk c.dn c.ds tk tm w ht h1 h2)
  have HK := Lib.hid (fun hw => cast_ok (tk := tk) (tm := tm) hc hw h1 h2)
  clear hc h1 h2
  obtain ⟨x0, x1⟩ := hX.v2
  clear hX
  have Hv : Hid (widE c tk tm = if rightT tk tm = true then (if wideT tk tm c.tk c.tm = true then 0 else 16) else 9) := rfl
  generalize widE c tk tm = E at Hv ⊢
  generalize rightT tk tm = b at HR Hv
  cases b
  · have He : Hid (E = 9) := Hv.out
    go_enter Tryz.func73, Tryz.ntmps73
    go_wp2_with fail
    refine HR.out.mono ?_
    rintro e w1 ⟨rfl, hb1⟩
    rw [Hw0.out] at hb1
    have Hb1 := Lib.hid (bthen Hb0.out hb1); clear hb1
    go_wp2_with fail
    go_ret
    exact ⟨by rw [He.out]; rfl, fun _ => Hb1.out, fun h => by rw [He.out] at h; cases h⟩
  generalize wideT tk tm c.tk c.tm = b at HWi HK Hv
  cases b
  · have He : Hid (E = 16) := Hv.out
    go_enter Tryz.func73, Tryz.ntmps73
    go_wp2_with fail
    refine HR.out.mono ?_
    rintro e w1 ⟨rfl, hb1⟩
    rw [Hw0.out] at hb1
    have Hb1 := Lib.hid hb1; clear hb1
    clear x0 x1
    obtain ⟨x0, x1⟩ := (HX.out.below Hb1.out (by have := Hs0.out; omega)).v2
    obtain ⟨d0, d1, d2, d3, d4, d5, d6, d7⟩ := col_cells (HO0.out.below Hb1.out) rfl Hj.out
    go_wp2_with fail
    go_region_with (first
      | (go_at_call 96; refine (HWi.out _).mono ?_; rintro e w2 ⟨rfl, hb2⟩; have Hb2 := Lib.hid (bthen (bthen Hb0.out Hb1.out) ((Below.refl w1.heap.size w1).drew.trans hb2)); clear hb2)
      | fail)
    all_goals
      go_wp2_with fail
      go_ret
      exact ⟨by rw [He.out]; rfl, fun _ => Hb2.out, fun h => by rw [He.out] at h; cases h⟩
  · have He : Hid (E = 0) := Hv.out
    obtain ⟨K1, K2⟩ := HK.out rfl
    generalize (castC tk tm c).dk = ck at K1 K2
    generalize (castC tk tm c).dn = cn at K1 K2
    generalize (castC tk tm c).ds = cs at K1 K2
    rw [K2]
    rw [K1] at HC
    clear K1 K2 HK
    go_enter Tryz.func73, Tryz.ntmps73
    go_wp2_with fail
    refine HR.out.mono ?_
    rintro e w1 ⟨rfl, hb1⟩
    rw [Hw0.out] at hb1
    have Hb1 := Lib.hid hb1; clear hb1
    clear x0 x1
    obtain ⟨x0, x1⟩ := (HX.out.below Hb1.out (by have := Hs0.out; omega)).v2
    obtain ⟨d0, d1, d2, d3, d4, d5, d6, d7⟩ := col_cells (HO0.out.below Hb1.out) rfl Hj.out
    go_wp2_with fail
    go_region_with (first
      | (go_at_call 96; refine (HWi.out _).mono ?_; rintro e w2 ⟨rfl, hb2⟩; have Hb2 := Lib.hid (bthen Hb1.out ((Below.refl w1.heap.size w1).drew.trans hb2)); clear hb2)
      | fail)
    all_goals
      clear x0 x1 d0 d1 d2 d3 d4 d5 d6 d7
      have HX2 := Lib.hid (HX.out.below Hb2.out (by have := Hs0.out; omega))
      have HO2 := Lib.hid (HO0.out.below Hb2.out)
      have HT2 : Hid (UTab w2.drew) := (HT.out.below Hb2.out (Nat.le_refl _)).drew
      obtain ⟨x0, x1⟩ := HX2.out.v2
      obtain ⟨d0, d1, d2, d3, d4, d5, d6, d7⟩ := col_cells HO2.out rfl Hj.out
      have k0 := fun o => keep_alloc x0 o
      have k1 := fun o => keep_alloc x1 o
      have k5 := fun o => keep_alloc d5 o
      have k6 := fun o => keep_alloc d6 o
      have k7 := fun o => keep_alloc d7 o
      have Hs2 : Hid (w.heap.size < w2.heap.size) := by show _ < _; have := Hs0.out; have := Hb2.out.size; omega
      go_wp2_with fail
      have HTX : Hid (∀ X, Below w2.heap.size w2 X → UTab X) := fun X hX => (HT.out.below Hb2.out (Nat.le_refl _)).below hX (Nat.le_refl _)
      go_region_with (first
        | (go_at_call 97; with_reducible change Calls Tryz.prog 97 _ (World.drew (World.alloc w2 _)) _; refine (HC.out _ (HTX.out _ (by go_grown))).mono ?_; rintro e w3 ⟨rfl, hb3⟩; have y0 : w3.cell? ⟨w2.heap.size, 0, none⟩ = some (.int .i64 0) := ((hb3.cell (p := ⟨w2.heap.size, 0, none⟩) (by simp)).trans (by simp)); have y1 : w3.cell? ⟨w2.heap.size, 1, none⟩ = some (.int .i64 0) := ((hb3.cell (p := ⟨w2.heap.size, 1, none⟩) (by simp)).trans (by simp)); have y2 : w3.cell? ⟨w2.heap.size, 2, none⟩ = some (.string ⟨#[]⟩) := ((hb3.cell (p := ⟨w2.heap.size, 2, none⟩) (by simp)).trans (by simp)); have g0 : w3.frozen? ⟨w2.heap.size, 0, none⟩ = false := ((hb3.frozen (p := ⟨w2.heap.size, 0, none⟩) (by simp)).trans (by simp)); have g1 : w3.frozen? ⟨w2.heap.size, 1, none⟩ = false := ((hb3.frozen (p := ⟨w2.heap.size, 1, none⟩) (by simp)).trans (by simp)); have g2 : w3.frozen? ⟨w2.heap.size, 2, none⟩ = false := ((hb3.frozen (p := ⟨w2.heap.size, 2, none⟩) (by simp)).trans (by simp)); have Hb3 := Lib.hid (show Below w2.heap.size w2 w3 from bthen (by go_grown) hb3); clear hb3)
        | (go_at_call 97; refine (HC.out _ (HTX.out _ (by go_grown))).mono ?_; rintro e w3 ⟨rfl, hb3⟩; have Hb3 := Lib.hid (show Below w2.heap.size w2 w3 from bthen (by go_grown) hb3); clear hb3)
        | fail)
      all_goals
        clear x0 x1 d0 d1 d2 d3 d4 d5 d6 d7 k0 k1 k5 k6 k7
        first
          | (obtain ⟨W, hW, hbW, v0, v1, v2⟩ := boxA Hb3.out y0 y1 y2 (.int .i64 ck) (.int .i64 cn) (.string cs); have HW := Lib.hid hW; clear hW; clear y0 y1 y2 g0 g1 g2)
          | (obtain ⟨W, hW, hbW, v0, v1, v2⟩ := boxB Hb3.out (.int .i64 ck) (.int .i64 cn) (.string cs); have HW := Lib.hid hW; clear hW)
        have HbW := Lib.hid hbW; clear hbW
        go_wp2_with fail
        rw [HW.out]
        obtain ⟨x0, x1⟩ := (HX2.out.below HbW.out Hs2.out).v2
        have HOW := Lib.hid (HO2.out.below HbW.out)
        obtain ⟨d0, d1, d2, d3, d4, d5, d6, d7⟩ := col_cells HOW.out rfl Hj.out
        have f2 := HOW.out.frozen (j * 8 + 2)
        have f3 := HOW.out.frozen (j * 8 + 3)
        have f5 := HOW.out.frozen (j * 8 + 5)
        have f6 := HOW.out.frozen (j * 8 + 6)
        have f7 := HOW.out.frozen (j * 8 + 7)
        have HbE := Lib.hid (bthen (bthen Hb0.out Hb2.out) HbW.out)
        have hn1 : w.heap.size ≠ g := by have := Hgw.out; omega
        have hn2 : w2.heap.size ≠ g := by have := Hgw.out; have := Hs2.out; omega
        have hn3 : w3.heap.size ≠ g := by have := Hgw.out; have := Hs2.out; have := Hb3.out.size; omega
        have hn1' : g ≠ w.heap.size := fun e => hn1 e.symm
        have hn2' : g ≠ w2.heap.size := fun e => hn2 e.symm
        have hn3' : g ≠ w3.heap.size := fun e => hn3 e.symm
        have HE : Hid (OwnC (((((W.setCell ⟨g, j * 8 + 2, none⟩ (.int .i64 tk)).setCell ⟨g, j * 8 + 2 + 1, none⟩ (.int .i64 tm)).setCell ⟨g, j * 8 + 5, none⟩ (.int .i64 ck)).setCell ⟨g, j * 8 + 5 + 1, none⟩ (.int .i64 cn)).setCell ⟨g, j * 8 + 5 + 2, none⟩ (.string cs)).drew B (.slice (some ⟨g, 0, none⟩) l.length cap) (l.set j { c with tk := tk, tm := tm, dk := ck, dn := cn, ds := cs })) := by
          have hjl := (List.getElem?_eq_some_iff.1 Hj.out).1
          have h1 := HOW.out.setT Hj.out tk tm
          rw [show l.length = (l.set j { c with tk := tk, tm := tm }).length by simp] at h1
          have h2 := h1.setD (List.getElem?_set_self hjl) ck cn cs
          rw [List.set_set, List.length_set] at h2
          exact World.ownsRow.drew h2
        have HoE : Hid (Off (fun x => x = g) w (((((W.setCell ⟨g, j * 8 + 2, none⟩ (.int .i64 tk)).setCell ⟨g, j * 8 + 2 + 1, none⟩ (.int .i64 tm)).setCell ⟨g, j * 8 + 5, none⟩ (.int .i64 ck)).setCell ⟨g, j * 8 + 5 + 1, none⟩ (.int .i64 cn)).setCell ⟨g, j * 8 + 5 + 2, none⟩ (.string cs)).drew) :=
          (((Off.behind HbE.out (Off.set W g (j * 8 + 2) (.int .i64 tk))).trans (Off.set _ g (j * 8 + 2 + 1) (.int .i64 tm))).trans (off_set3 _ g (j * 8 + 5) (j * 8 + 5 + 1) (j * 8 + 5 + 2) (.int .i64 ck) (.int .i64 cn) (.string cs))).trans (off_drew _)
        go_region
        all_goals
          go_wp2_with fail
          go_ret
          exact ⟨by rw [He.out]; rfl, fun h => absurd He.out h, fun _ => ⟨HoE.out, HE.out⟩⟩
end Go.Proofs.YthmjgaekcghonaaGreatDoor

/-
  Contracts of package ddl's call and cut.
-/
namespace Go.Proofs.YthmjgaekcghonaaGreatDoor
open Go.RowKit

/-- why a column may not be called otherwise -/
def callE (l : List Cb) (s : ByteArray) : Int := if rightN (bs s) = true then (if (colP l s).isSome = true then 14 else 0) else 8
set_option maxRecDepth 100000 in
set_option maxHeartbeats 4000000 in
theorem dcall_any (g cap k gc cc j : Nat) (l : List Tb) (t : Tb) (c : Cb) (s : ByteArray) (w : World) (B Bc : Nat) (hO : OwnTb w B (.slice (some ⟨g, 0, none⟩) l.length cap) l) (hk : l[k]? = some t)
    (hA : t.A = some ⟨gc, 0, none⟩) (hcc : t.cap = cc) (hC : OwnC w Bc (.slice (some ⟨gc, 0, none⟩) t.cols.length cc) t.cols) (hj : t.cols[j]? = some c) (hl : t.cols.length ≤ 1000000) (hs : s.size ≤ 1000000) :
    Calls Tryz.prog 72 #[.pointer (some ⟨g, k * 5, none⟩), .int .i64 (j : Int), .string s] w fun e w' => e = .returned (.int .i64 (callE t.cols s)) ∧ (callE t.cols s ≠ 0 → Below w.heap.size w w') ∧
      (callE t.cols s = 0 → Off (fun x => x = gc) w w' ∧ OwnC w' Bc (.slice (some ⟨gc, 0, none⟩) t.cols.length cc) (t.cols.set j { c with nm := s })) := by
  have HO := Lib.hid hO; clear hO
  have HC := Lib.hid hC
  have Hk := Lib.hid hk; clear hk
  have Hj := Lib.hid hj
  have hjl := (List.getElem?_eq_some_iff.1 hj).1
  clear hj
  have HN := Lib.hid (nright_any s w hs)
  have HAt : Hid (TabAt w w.heap.size t) := by
    show RowAt _ _ _ _ _ _
    rw [hA]; exact hC.at lenC
  have HH := Lib.hid (hascol_any t s w HAt.out hl)
  clear hC
  have Hv : Hid (callE t.cols s = if rightN (bs s) = true then (if (colI t s).isSome = true then 14 else 0) else 8) := rfl
  generalize callE t.cols s = E at Hv ⊢
  generalize rightN (bs s) = b1 at HN Hv
  generalize (colI t s).isSome = b2 at HH Hv
  obtain ⟨d0, d1, d2, d3, d4⟩ := tab_cells HO.out Hk.out
  rw [hA, hcc] at d4
  unfold TV at HH
  rw [hA, hcc] at HH
  cases b1
  · have He : Hid (E = 8) := Hv.out
    go_enter Tryz.func72, Tryz.ntmps72
    go_wp2_with fail
    refine HN.out.mono ?_
    rintro e w1 ⟨rfl, rfl⟩
    go_wp2_with fail
    go_ret
    exact ⟨by rw [He.out]; rfl, fun _ => Below.refl _ _, fun h => by rw [He.out] at h; cases h⟩
  cases b2
  case true =>
    have He : Hid (E = 14) := Hv.out
    go_enter Tryz.func72, Tryz.ntmps72
    go_wp2_with fail
    refine HN.out.mono ?_
    rintro e w1 ⟨rfl, rfl⟩
    go_wp2_with fail
    refine HH.out.mono ?_
    rintro e w2 ⟨rfl, hb2⟩
    have Hb2 := Lib.hid hb2; clear hb2
    go_wp2_with fail
    go_ret
    exact ⟨by rw [He.out]; rfl, fun _ => Hb2.out, fun h => by rw [He.out] at h; cases h⟩
  have He : Hid (E = 0) := Hv.out
  have hj0 : (0 : Int) ≤ (j : Int) := by omega
  have hjI : (j : Int) < (t.cols.length : Int) := by omega
  go_enter Tryz.func72, Tryz.ntmps72
  go_wp2_with fail
  refine HN.out.mono ?_
  rintro e w1 ⟨rfl, rfl⟩
  go_wp2_with fail
  refine HH.out.mono ?_
  rintro e w2 ⟨rfl, hb2⟩
  have Hb2 := Lib.hid hb2; clear hb2
  clear d0 d1 d2 d3 d4
  have HC2 := Lib.hid (HC.out.below Hb2.out)
  obtain ⟨_, _, _, _, d4⟩ := tab_cells (HO.out.below Hb2.out) Hk.out
  rw [hA, hcc] at d4
  obtain ⟨_, y1, _, _, _, _, _, _⟩ := col_cells HC2.out rfl Hj.out
  have f1 := HC2.out.frozen (j * 8 + 1)
  have HE := Lib.hid (HC2.out.set1 lenC (k := j) (i := 1) (x := c) (y := { c with nm := s }) (u := .string s) Hj.out (by omega) rfl)
  have HoE := Lib.hid (Off.behind Hb2.out (Off.set w2 gc (j * 8 + 1) (.string s)))
  go_wp2_with fail
  go_ret
  exact ⟨by rw [He.out]; rfl, fun h => absurd He.out h, fun _ => ⟨HoE.out, HE.out⟩⟩
/-- why a column may not be removed -/
def cutE (t : Tb) (c : Cb) : Int := if c.id = t.key then 15 else 0
set_option maxRecDepth 100000 in
set_option maxHeartbeats 4000000 in
theorem dcut_any (g cap k gc cc j : Nat) (l : List Tb) (t : Tb) (c : Cb) (w : World) (B Bc : Nat) (hO : OwnTb w B (.slice (some ⟨g, 0, none⟩) l.length cap) l) (hk : l[k]? = some t)
    (hA : t.A = some ⟨gc, 0, none⟩) (hcc : t.cap = cc) (hC : OwnC w Bc (.slice (some ⟨gc, 0, none⟩) t.cols.length cc) t.cols) (hj : t.cols[j]? = some c) (hl : t.cols.length ≤ 1000000) (hgc : g < gc) :
    Calls Tryz.prog 71 #[.pointer (some ⟨g, k * 5, none⟩), .int .i64 (j : Int)] w fun e w' => e = .returned (.int .i64 (cutE t c)) ∧ (cutE t c ≠ 0 → Below w.heap.size w w') ∧
      (cutE t c = 0 → Off (fun x => x = g ∨ x = gc) w w' ∧ OwnC w' Bc (.slice (some ⟨gc, 0, none⟩) (t.cols.length - 1) cc) (t.cols.eraseIdx j) ∧
        OwnTb w' B (.slice (some ⟨g, 0, none⟩) l.length cap) (l.set k { t with cols := t.cols.eraseIdx j })) := by
  have HO := Lib.hid hO; clear hO
  have HC := Lib.hid hC
  have Hk := Lib.hid hk; clear hk
  have Hj := Lib.hid hj
  have hjl := (List.getElem?_eq_some_iff.1 hj).1
  clear hj
  have Hlen : Hid ((t.cols.eraseIdx j).length = t.cols.length - 1) := by show _ = _; rw [List.length_eraseIdx, if_pos hjl]
  have HD := Lib.hid (fun w' hO' => cdel_any gc cc j t.cols w' Bc hO' hjl hl)
  clear hC
  obtain ⟨d0, d1, d2, d3, d4⟩ := tab_cells HO.out Hk.out
  rw [hA, hcc] at d4
  obtain ⟨y0, _, _, _, _, _, _, _⟩ := col_cells HC.out rfl Hj.out
  have hj0 : (0 : Int) ≤ (j : Int) := by omega
  have hjI : (j : Int) < (t.cols.length : Int) := by omega
  have hwj : IntKind.i64.wrap ((j : Int) + 1) = (j : Int) + 1 := by rw [IntKind.wrap_i64]; omega
  by_cases hid : c.id = t.key
  · have He : Hid (cutE t c = 15) := by show _ = _; unfold cutE; rw [if_pos hid]
    generalize cutE t c = E at He ⊢
    have hq : (c.id == t.key) = true := by simpa using hid
    clear hid
    go_enter Tryz.func71, Tryz.ntmps71
    go_wp2_with fail
    go_region
    all_goals
      have Hb : Hid (Below w.heap.size w w.drew) := (Below.refl _ _).drew
      go_wp2_with fail
      go_ret
      exact ⟨by rw [He.out]; rfl, fun _ => Hb.out, fun h => by rw [He.out] at h; cases h⟩
  · have He : Hid (cutE t c = 0) := by show _ = _; unfold cutE; rw [if_neg hid]
    generalize cutE t c = E at He ⊢
    have hq : (c.id == t.key) = false := by simpa using hid
    clear hid
    have Hd := Lib.hid (HD.out w.drew HC.out)
    go_enter Tryz.func71, Tryz.ntmps71
    go_wp2_with fail
    go_region
    all_goals
      go_wp2_with fail
      refine Hd.out.mono ?_
      rintro e w2 ⟨rfl, ho2, hf2⟩
      have Hf2 : Hid (Off (fun x => x = gc) w w2) := (off_drew w).trans hf2
      have HO2 := Lib.hid (HO.out.off Hf2.out (fun x hx e => by simp [Value.ownBlock] at hx; omega))
      have HC2 := Lib.hid ho2
      clear ho2 hf2
      clear d0 d1 d2 d3 d4 y0
      obtain ⟨_, _, _, _, d4⟩ := tab_cells HO2.out Hk.out
      have f4 := HO2.out.frozen (k * 5 + 4)
      have HE := Lib.hid (HO2.out.set1 lenT (k := k) (i := 4) (x := t) (y := { t with cols := t.cols.eraseIdx j }) (u := .slice (some ⟨gc, 0, none⟩) (t.cols.length - 1) cc) Hk.out (by omega) (by simp [fT, Hlen.out, hA, hcc]))
      have HCE := Lib.hid (OwnR.off HC2.out (Off.set w2 g (k * 5 + 4) (.slice (some ⟨gc, 0, none⟩) (t.cols.length - 1) cc)) (fun x hx e => by simp [Value.ownBlock] at hx; omega))
      have HoE : Hid (Off (fun x => x = g ∨ x = gc) w (w2.setCell ⟨g, k * 5 + 4, none⟩ (.slice (some ⟨gc, 0, none⟩) (t.cols.length - 1) cc))) :=
        (Hf2.out.mono fun x _ e => .inr e).trans ((Off.set w2 g (k * 5 + 4) _).mono fun x _ e => .inl e)
      go_wp2_with fail
      go_ret
      exact ⟨by rw [He.out]; rfl, fun h => absurd He.out h, fun _ => ⟨HoE.out, HCE.out, HE.out⟩⟩
end Go.Proofs.YthmjgaekcghonaaGreatDoor

/-
  Contract of package ddl's changeColumn.
-/
namespace Go.Proofs.YthmjgaekcghonaaGreatDoor
open Go.RowKit

theorem map_set {l : List Cb} (hp : l.Pairwise (Apart Cb.id Cb.nm)) {j : Nat} {c : Cb} (hj : l[j]? = some c) {s : ByteArray} (hs : c.nm = s) (f : Cb → Cb) : (l.map fun x => if eqS x.nm s = true then f x else x) = l.set j (f c) := by
  refine List.ext_getElem? fun i => ?_
  obtain ⟨hjl, hjc⟩ := List.getElem?_eq_some_iff.1 hj
  rw [List.getElem?_map, List.getElem?_set]
  by_cases h : j = i
  · subst h
    rw [if_pos rfl, if_pos hjl, hj]
    simp only [Option.map_some]
    rw [if_pos (eqS_iff.2 hs)]
  · rw [if_neg h]
    cases hx : l[i]? with
    | none => rfl
    | some x =>
      simp only [Option.map_some]
      obtain ⟨hil, hic⟩ := List.getElem?_eq_some_iff.1 hx
      rw [List.pairwise_iff_getElem] at hp
      have hne : x.nm ≠ s := fun e => by
        rcases Nat.lt_or_gt_of_ne h with h1 | h1
        · exact (hp j i hjl hil h1).2 (by rw [hjc, hic, hs, e])
        · exact (hp i j hil hjl h1).2 (by rw [hjc, hic, hs, e])
      rw [if_neg (fun e => hne (eqS_iff.1 e))]
theorem filter_erase : ∀ {l : List Cb}, l.Pairwise (Apart Cb.id Cb.nm) → ∀ {j : Nat} {c : Cb}, l[j]? = some c → ∀ {s : ByteArray}, c.nm = s → (l.filter fun x => !eqS x.nm s) = l.eraseIdx j
  | [], _, j, c, h, _, _ => by simp at h
  | a :: r, hp, 0, c, h, s, hs => by
    simp at h; subst h
    rw [List.pairwise_cons] at hp
    rw [List.filter_cons, if_neg (by rw [eqS_iff.2 hs]; simp), List.eraseIdx_cons_zero, List.filter_eq_self]
    intro x hx
    cases e : eqS x.nm s with
    | false => rfl
    | true => exact absurd (hs.trans (eqS_iff.1 e).symm) (hp.1 x hx).2
  | a :: r, hp, j + 1, c, h, s, hs => by
    rw [List.pairwise_cons] at hp
    have hc : r[j]? = some c := by simpa using h
    have hne : eqS a.nm s = false := by
      cases e : eqS a.nm s with
      | false => rfl
      | true => exact absurd ((eqS_iff.1 e).trans hs.symm) (hp.1 c (List.mem_of_getElem? hc)).2
    rw [List.filter_cons, if_pos (by rw [hne]; rfl), List.eraseIdx_cons_succ, filter_erase hp.2 hc hs]
/-- the error of a change of a column that is there -/
def colE (t : Tb) (c : Cb) (d : Dp) : Int := if d.op = 5 then cutE t c else if d.op = 6 then callE t.cols d.to else if d.op = 7 then widE c d.tk d.tm else presE c d.dk d.dn d.ds
theorem wrong_col {L : List Tp} {t : Tb} {d : Dp} (hop : d.op = 5 ∨ d.op = 6 ∨ d.op = 7 ∨ d.op = 8) : wrongE L t.p d = match colV t.cols d.co with
    | none => 13
    | some c => colE t c d := by
  unfold wrongE
  rw [if_neg (by omega), if_neg (by omega), if_neg (by omega)]
  rw [show t.p.cols = t.cols from rfl, show t.p.key = t.key from rfl]
  cases colV t.cols d.co with
  | none => rfl
  | some x =>
    show (if d.op = 5 ∧ x.id = t.key then 15 else if d.op = 6 ∧ rightN (bs d.to) = false then 8 else if d.op = 6 ∧ (colP t.cols d.to).isSome = true then 14
      else if d.op = 7 ∧ rightT d.tk d.tm = false then 9 else if d.op = 7 ∧ wideT d.tk d.tm x.tk x.tm = false then 16 else if d.op = 8 ∧ presetD x.tk x.tm d.dk d.dn d.ds = false then 10 else 0) = colE t x d
    unfold colE cutE callE widE presE
    rcases hop with e | e | e | e
    · simp only [e]; simp
    · simp only [e]; simp
      cases rightN (bs d.to) <;> cases (colP t.cols d.to).isSome <;> rfl
    · simp only [e]; simp
      cases rightT d.tk d.tm <;> cases wideT d.tk d.tm x.tk x.tm <;> rfl
    · simp only [e]; simp
      cases presetD x.tk x.tm d.dk d.dn d.ds <;> rfl
/-- the columns behind a change of one -/
def colsC (l : List Cb) (j : Nat) (c : Cb) (d : Dp) : List Cb := if d.op = 5 then l.eraseIdx j else if d.op = 6 then l.set j { c with nm := d.to } else if d.op = 7 then l.set j (castC d.tk d.tm c) else l.set j { c with dk := d.dk, dn := d.dn, ds := d.ds }
theorem colsC_eq {t : Tb} {d : Dp} (hop : d.op = 5 ∨ d.op = 6 ∨ d.op = 7 ∨ d.op = 8) (hp : t.cols.Pairwise (Apart Cb.id Cb.nm)) {j : Nat} {c : Cb} (hj : t.cols[j]? = some c) (hs : c.nm = d.co) : tableD t.p d = ⟨t.id, t.nm, t.key, t.nx, colsC t.cols j c d⟩ := by
  have h3 : ¬ d.op = 3 := by omega
  have h4 : ¬ d.op = 4 := by omega
  have hc : colsD t.p d = colsC t.cols j c d := by
    unfold colsD colsC
    rw [if_neg h4, show t.p.cols = t.cols from rfl]
    rcases hop with e | e | e | e
    · rw [if_pos e, if_pos e]; exact filter_erase hp hj hs
    · rw [if_neg (by omega), if_pos e, if_neg (by omega), if_pos e]; exact map_set hp hj hs fun c => { c with nm := d.to }
    · rw [if_neg (by omega), if_neg (by omega), if_pos e, if_neg (by omega), if_neg (by omega), if_pos e]; exact map_set hp hj hs fun c => castC d.tk d.tm c
    · rw [if_neg (by omega), if_neg (by omega), if_neg (by omega), if_pos e, if_neg (by omega), if_neg (by omega), if_neg (by omega)]; exact map_set hp hj hs fun c => { c with dk := d.dk, dn := d.dn, ds := d.ds }
  unfold tableD
  rw [if_neg h3, if_neg h4, hc]; rfl
set_option maxRecDepth 100000 in
set_option maxHeartbeats 4000000 in
theorem chcol_any (g cap k : Nat) (l : List Tb) (t : Tb) (d : Db) (w : World) (B Bc : Nat) (ht : UTab w) (hO : OwnTb w B (.slice (some ⟨g, 0, none⟩) l.length cap) l) (hk : l[k]? = some t)
    (hC : OwnC w Bc (.slice t.A t.cols.length t.cap) t.cols) (hgB : g < Bc) (hl0 : 0 < t.cols.length) (hl : t.cols.length ≤ 10) (hto : d.p.to.size ≤ 1000000)
    (hr : ∀ c ∈ t.cols, rightC c = true) (h64 : W64 t.cols) (hp : t.cols.Pairwise (Apart Cb.id Cb.nm)) (L : List Tp) (hop : d.p.op = 5 ∨ d.p.op = 6 ∨ d.p.op = 7 ∨ d.p.op = 8) :
    Calls Tryz.prog 44 #[.pointer (some ⟨g, k * 5, none⟩), DV d] w fun e w' => e = .returned (.int .i64 (wrongE L t.p d.p)) ∧ Off (fun x => x = g ∨ colBk t = some x) w w' ∧
      (wrongE L t.p d.p = 0 → ∃ t' : Tb, t'.p = tableD t.p d.p ∧ OwnTb w' B (.slice (some ⟨g, 0, none⟩) l.length cap) (l.set k t') ∧ OwnC w' Bc (.slice t'.A t'.cols.length t'.cap) t'.cols) := by
  obtain ⟨w0, hw0, hb0, hX, hs0⟩ := box_ddl w d
  have Hw0 := Lib.hid hw0; clear hw0
  have Hb0 := Lib.hid hb0
  have Hk := Lib.hid hk
  obtain ⟨gc, cc, hsh, hgc1, hgc2, hgc3, hgc4⟩ := OwnR.shape hC hl0
  have hA9 : t.A = some ⟨gc, 0, none⟩ := by injection hsh
  have hc9 : t.cap = cc := by injection hsh
  clear hsh hgc3 hgc4
  have HcB : Hid (colBk t = some gc) := by show _ = _; unfold colBk; rw [hA9]; rfl
  rw [hA9, hc9] at hC
  obtain ⟨e0, e1, e2, e3, e4⟩ := tab_cells hO hk
  rw [hA9, hc9] at e4
  clear hk
  have HO0 := Lib.hid (hO.below hb0); clear hO
  have HC0 := Lib.hid (hC.below hb0); clear hC
  have HT := Lib.hid (ht.below hb0 (Nat.le_refl _)); clear ht hb0
  have HX := Lib.hid hX; clear hX
  have Hs0 := Lib.hid hs0; clear hs0
  have HAt : Hid (TabAt w0 w0.heap.size t) := by
    show RowAt _ _ _ _ _ _
    rw [hA9]; exact HC0.out.at lenC
  have HAd : Hid (TabAt w0.drew w0.drew.heap.size t) := HAt.out
  have HCl := Lib.hid (fun w' hA' => scol_any t d.p.co w' hA' (by omega))
  have He := Lib.hid (wrong_col (L := L) (t := t) hop)
  have Hhr := Lib.hid hr; clear hr
  have H64 := Lib.hid h64; clear h64
  have Hp := Lib.hid hp; clear hp
  generalize wrongE L t.p d.p = E at He ⊢
  obtain ⟨d0, d1, d2, d3, d4⟩ := tab_cells HO0.out Hk.out
  rw [hA9, hc9] at d4
  clear e0 e1 e2 e3 e4
  obtain ⟨x0, x1, x2, x3, x4, x5, x6, x7, x8, x9, x10, x11⟩ := HX.out.ddl
  unfold TV at HCl
  rw [hA9, hc9] at HCl
  rw [show colI t d.p.co = colP t.cols d.p.co from rfl] at HCl
  cases hco : colP t.cols d.p.co with
  | none =>
    have He2 : Hid (E = 13) := by show _ = _; rw [He.out]; unfold colV; rw [hco]; rfl
    rw [hco, show fstV none = .tuple #[.int .i64 0, .bool false] from rfl] at HCl
    clear hco
    go_enter Tryz.func44, Tryz.ntmps44
    go_wp2_with fail
    rw [Hw0.out]
    go_region_with (first
      | (go_at_call 70; refine (HCl.out _ HAd.out).mono ?_; rintro e w2 ⟨rfl, hb2⟩; have Hb2 := Lib.hid (bthen Hb0.out ((Below.refl w0.heap.size w0).drew.trans hb2)); clear hb2)
      | fail)
    all_goals
      go_wp2_with fail
      go_ret
      exact ⟨by rw [He2.out]; rfl, .of_below Hb2.out, fun h => by rw [He2.out] at h; cases h⟩
  | some j =>
    obtain ⟨c, hc1, hc2, _⟩ := find_some (show t.cols.findIdx? (fun c => eqS c.nm d.p.co) = some j from hco)
    have hjl := (List.getElem?_eq_some_iff.1 hc1).1
    have He2 : Hid (E = colE t c d.p) := by show _ = _; rw [He.out]; unfold colV; rw [hco]; simp only [Option.bind_some, hc1]
    rw [hco, show fstV (some j) = .tuple #[.int .i64 (j : Int), .bool true] from rfl] at HCl
    have Hj := Lib.hid hc1
    have Htd := Lib.hid (colsC_eq hop Hp.out hc1 (eqS_iff.1 hc2))
    have Hcm := Lib.hid (List.mem_of_getElem? hc1)
    clear hco hc1 hc2 He
    have hj0 : (0 : Int) ≤ (j : Int) := by omega
    have hjI : (j : Int) < (t.cols.length : Int) := by omega
    have Hdone : Hid (∀ w' : World, Off (fun x => x = g ∨ x = gc) w w' → Off (fun x => x = g ∨ colBk t = some x) w w') := fun w' h => h.mono fun x _ e => by
      rcases e with e | e
      · exact .inl e
      · right; rw [HcB.out, e]
    -- what one of the four does
    have Hfin : Hid (∀ w2 w' (cs : List Cb), Below w.heap.size w w2 → OwnTb w2 B (.slice (some ⟨g, 0, none⟩) l.length cap) l → Off (fun x => x = gc) w2 w' → cs.length = t.cols.length → cs = colsC t.cols j c d.p → OwnC w' Bc (.slice (some ⟨gc, 0, none⟩) t.cols.length cc) cs →
        Off (fun x => x = g ∨ colBk t = some x) w w' ∧ ∃ t' : Tb, t'.p = tableD t.p d.p ∧ OwnTb w' B (.slice (some ⟨g, 0, none⟩) l.length cap) (l.set k t') ∧ OwnC w' Bc (.slice t'.A t'.cols.length t'.cap) t'.cols) := fun w2 w' cs hb2 hO2 hof hcl hcs hoc => by
      refine ⟨Hdone.out _ ((Off.behind hb2 hof).mono fun x _ e => .inr e), ⟨t.id, t.nm, t.key, t.nx, t.A, t.cap, cs⟩, ?_, ?_, ?_⟩
      · rw [Htd.out, ← hcs]; rfl
      · have h1 := OwnR.off hO2 hof (fun x hx e => by simp [Value.ownBlock] at hx; omega)
        have h2 : flt fT (l.set k ⟨t.id, t.nm, t.key, t.nx, t.A, t.cap, cs⟩) = flt fT l := by
          rw [flat_set lenT l k t ⟨t.id, t.nm, t.key, t.nx, t.A, t.cap, cs⟩ 4 (.slice t.A t.cols.length t.cap) Hk.out (by omega) (by simp [fT, hcl])]
          have h3 := flat_get lenT l k t 4 _ Hk.out rfl
          obtain ⟨h4, h5⟩ := List.getElem?_eq_some_iff.1 h3
          rw [← h5]
          exact List.set_getElem_self h4
        have h1' : World.ownsRow w' B 51 5 (.slice (some ⟨g, 0, none⟩) l.length cap) l.length (flt fT l) := h1
        show World.ownsRow w' B 51 5 (.slice (some ⟨g, 0, none⟩) l.length cap) (l.set k ⟨t.id, t.nm, t.key, t.nx, t.A, t.cap, cs⟩).length (flt fT (l.set k ⟨t.id, t.nm, t.key, t.nx, t.A, t.cap, cs⟩))
        rw [List.length_set, h2]; exact h1'
      · show OwnC w' Bc (.slice t.A cs.length t.cap) cs
        rw [hcl, hA9, hc9]; exact hoc
    have Hne1 : Hid (gc < w.heap.size) := hgc2
    rcases hop with o5 | o6 | o7 | o8
    · have He3 : Hid (E = cutE t c) := by show _ = _; rw [He2.out]; unfold colE; rw [if_pos o5]
      have Hcs : Hid (colsC t.cols j c d.p = t.cols.eraseIdx j) := by show _ = _; unfold colsC; rw [if_pos o5]
      have HF := Lib.hid (fun w' hO' hC' => dcut_any g cap k gc cc j l t c w' B Bc hO' Hk.out hA9 hc9 hC' Hj.out (by omega) (by omega))
      generalize cutE t c = F at HF He3
      have q5 : (d.p.op == 5) = true := by rw [beq_iff_eq]; exact o5
      clear He2 o5
      go_enter Tryz.func44, Tryz.ntmps44
      go_wp2_with fail
      rw [Hw0.out]
      go_region_with (first
        | (go_at_call 70; refine (HCl.out _ HAd.out).mono ?_; rintro e w2 ⟨rfl, hb2⟩; have Hb2 := Lib.hid ((Below.refl w0.heap.size w0).drew.trans hb2); clear hb2)
        | fail)
      all_goals
        clear x0 x1 x2 x3 x4 x5 x6 x7 x8 x9 x10 x11 d0 d1 d2 d3 d4
        have Hb2w := Lib.hid (bthen Hb0.out Hb2.out)
        have HX2 := Lib.hid (HX.out.below Hb2.out (by have := Hs0.out; omega))
        obtain ⟨x0, x1, x2, x3, x4, x5, x6, x7, x8, x9, x10, x11⟩ := HX2.out.ddl
        have HO2 := Lib.hid (HO0.out.below Hb2.out)
        have HC2 := Lib.hid (HC0.out.below Hb2.out)
        have HT2 := Lib.hid (HT.out.below Hb2.out (Nat.le_refl _))
        obtain ⟨d0, d1, d2, d3, d4⟩ := tab_cells HO2.out Hk.out
        rw [hA9, hc9] at d4
        have HF2 := Lib.hid (HF.out w2 HO2.out HC2.out)
        go_wp2_with fail
        refine HF2.out.mono ?_
        rintro e w3 ⟨rfl, hbad, hok⟩
        have Hbad := Lib.hid hbad
        have Hok := Lib.hid hok
        clear hbad hok
        go_wp2_with fail
        go_ret
        by_cases hF : F = 0
        · obtain ⟨h1, h2, h3⟩ := Hok.out hF
          have hel : (t.cols.eraseIdx j).length = t.cols.length - 1 := by rw [List.length_eraseIdx, if_pos hjl]
          refine ⟨by rw [He3.out]; rfl, Hdone.out _ (Off.behind Hb2w.out h1), fun _ => ⟨{ t with cols := t.cols.eraseIdx j }, ?_, h3, ?_⟩⟩
          · rw [Htd.out, Hcs.out]; rfl
          · show OwnC w3 Bc (.slice t.A (t.cols.eraseIdx j).length t.cap) (t.cols.eraseIdx j)
            rw [hel, hA9, hc9]; exact h2
        · exact ⟨by rw [He3.out]; rfl, .of_below (bthen Hb2w.out (Hbad.out hF)), fun h => absurd (He3.out.symm.trans h) hF⟩
    · have He3 : Hid (E = callE t.cols d.p.to) := by show _ = _; rw [He2.out]; unfold colE; rw [if_neg (by omega), if_pos o6]
      have Hcs : Hid (colsC t.cols j c d.p = t.cols.set j { c with nm := d.p.to }) := by show _ = _; unfold colsC; rw [if_neg (by omega), if_pos o6]
      have HF := Lib.hid (fun w' hO' hC' => dcall_any g cap k gc cc j l t c d.p.to w' B Bc hO' Hk.out hA9 hc9 hC' Hj.out (by omega) hto)
      generalize callE t.cols d.p.to = F at HF He3
      have q5 : (d.p.op == 5) = false := by rw [beq_eq_false_iff_ne]; omega
      have q6 : (d.p.op == 6) = true := by rw [beq_iff_eq]; exact o6
      clear He2 o6
      go_enter Tryz.func44, Tryz.ntmps44
      go_wp2_with fail
      rw [Hw0.out]
      go_region_with (first
        | (go_at_call 70; refine (HCl.out _ HAd.out).mono ?_; rintro e w2 ⟨rfl, hb2⟩; have Hb2 := Lib.hid ((Below.refl w0.heap.size w0).drew.trans hb2); clear hb2)
        | fail)
      all_goals
        clear x0 x1 x2 x3 x4 x5 x6 x7 x8 x9 x10 x11 d0 d1 d2 d3 d4
        have Hb2w := Lib.hid (bthen Hb0.out Hb2.out)
        have HX2 := Lib.hid (HX.out.below Hb2.out (by have := Hs0.out; omega))
        obtain ⟨x0, x1, x2, x3, x4, x5, x6, x7, x8, x9, x10, x11⟩ := HX2.out.ddl
        have HO2 := Lib.hid (HO0.out.below Hb2.out)
        have HC2 := Lib.hid (HC0.out.below Hb2.out)
        have HT2 := Lib.hid (HT.out.below Hb2.out (Nat.le_refl _))
        obtain ⟨d0, d1, d2, d3, d4⟩ := tab_cells HO2.out Hk.out
        rw [hA9, hc9] at d4
        have HF2 := Lib.hid (HF.out w2 HO2.out HC2.out)
        go_wp2_with fail
        refine HF2.out.mono ?_
        rintro e w3 ⟨rfl, hbad, hok⟩
        have Hbad := Lib.hid hbad
        have Hok := Lib.hid hok
        clear hbad hok
        go_wp2_with fail
        go_ret
        by_cases hF : F = 0
        · obtain ⟨h1, h2⟩ := Hok.out hF
          have h3 := Hfin.out w2 w3 _ Hb2w.out HO2.out h1 (by simp) Hcs.out.symm h2
          exact ⟨by rw [He3.out]; rfl, h3.1, fun _ => h3.2⟩
        · exact ⟨by rw [He3.out]; rfl, .of_below (bthen Hb2w.out (Hbad.out hF)), fun h => absurd (He3.out.symm.trans h) hF⟩
    · have He3 : Hid (E = widE c d.p.tk d.p.tm) := by show _ = _; rw [He2.out]; unfold colE; rw [if_neg (by omega), if_neg (by omega), if_pos o7]
      have Hcs : Hid (colsC t.cols j c d.p = t.cols.set j (castC d.p.tk d.p.tm c)) := by show _ = _; unfold colsC; rw [if_neg (by omega), if_neg (by omega), if_pos o7]
      have hrc := ((rightC_iff c).1 (Hhr.out c Hcm.out)).2.2.2.2
      have HF := Lib.hid (fun w' ht' hC' => widen_any gc cc j t.cols c d.p.tk d.p.tm w' Bc ht' hC' Hj.out hrc (H64.out c Hcm.out).1 (H64.out c Hcm.out).2)
      generalize widE c d.p.tk d.p.tm = F at HF He3
      have q5 : (d.p.op == 5) = false := by rw [beq_eq_false_iff_ne]; omega
      have q6 : (d.p.op == 6) = false := by rw [beq_eq_false_iff_ne]; omega
      have q7 : (d.p.op == 7) = true := by rw [beq_iff_eq]; exact o7
      clear He2 o7 hrc
      go_enter Tryz.func44, Tryz.ntmps44
      go_wp2_with fail
      rw [Hw0.out]
      go_region_with (first
        | (go_at_call 70; refine (HCl.out _ HAd.out).mono ?_; rintro e w2 ⟨rfl, hb2⟩; have Hb2 := Lib.hid ((Below.refl w0.heap.size w0).drew.trans hb2); clear hb2)
        | fail)
      all_goals
        clear x0 x1 x2 x3 x4 x5 x6 x7 x8 x9 x10 x11 d0 d1 d2 d3 d4
        have Hb2w := Lib.hid (bthen Hb0.out Hb2.out)
        have HX2 := Lib.hid (HX.out.below Hb2.out (by have := Hs0.out; omega))
        obtain ⟨x0, x1, x2, x3, x4, x5, x6, x7, x8, x9, x10, x11⟩ := HX2.out.ddl
        have HO2 := Lib.hid (HO0.out.below Hb2.out)
        have HC2 := Lib.hid (HC0.out.below Hb2.out)
        have HT2 := Lib.hid (HT.out.below Hb2.out (Nat.le_refl _))
        obtain ⟨d0, d1, d2, d3, d4⟩ := tab_cells HO2.out Hk.out
        rw [hA9, hc9] at d4
        have HF2 := Lib.hid (HF.out w2.drew HT2.out.drew HC2.out)
        go_wp2_with fail
        go_region_with (first
          | (go_at_call 73; refine HF2.out.mono ?_; rintro e w3 ⟨rfl, hbad, hok⟩; have Hbad := Lib.hid hbad; have Hok := Lib.hid hok; clear hbad hok)
          | fail)
        all_goals
          go_wp2_with fail
          go_ret
          by_cases hF : F = 0
          · obtain ⟨h1, h2⟩ := Hok.out hF
            have h3 := Hfin.out w2.drew w3 _ Hb2w.out.drew HO2.out h1 (by simp) Hcs.out.symm h2
            exact ⟨by rw [He3.out]; rfl, h3.1, fun _ => h3.2⟩
          · exact ⟨by rw [He3.out]; rfl, .of_below (bthen Hb2w.out.drew (Hbad.out hF)), fun h => absurd (He3.out.symm.trans h) hF⟩
    · have He3 : Hid (E = presE c d.p.dk d.p.dn d.p.ds) := by show _ = _; rw [He2.out]; unfold colE; rw [if_neg (by omega), if_neg (by omega), if_neg (by omega)]
      have Hcs : Hid (colsC t.cols j c d.p = t.cols.set j { c with dk := d.p.dk, dn := d.p.dn, ds := d.p.ds }) := by show _ = _; unfold colsC; rw [if_neg (by omega), if_neg (by omega), if_neg (by omega)]
      have HF := Lib.hid (fun w' ht' hC' => preset_any gc cc j t.cols c d.p.dk d.p.dn d.p.ds w' Bc ht' hC' Hj.out)
      generalize presE c d.p.dk d.p.dn d.p.ds = F at HF He3
      have q5 : (d.p.op == 5) = false := by rw [beq_eq_false_iff_ne]; omega
      have q6 : (d.p.op == 6) = false := by rw [beq_eq_false_iff_ne]; omega
      have q7 : (d.p.op == 7) = false := by rw [beq_eq_false_iff_ne]; omega
      clear He2 o8
      go_enter Tryz.func44, Tryz.ntmps44
      go_wp2_with fail
      rw [Hw0.out]
      go_region_with (first
        | (go_at_call 70; refine (HCl.out _ HAd.out).mono ?_; rintro e w2 ⟨rfl, hb2⟩; have Hb2 := Lib.hid ((Below.refl w0.heap.size w0).drew.trans hb2); clear hb2)
        | fail)
      all_goals
        clear x0 x1 x2 x3 x4 x5 x6 x7 x8 x9 x10 x11 d0 d1 d2 d3 d4
        have Hb2w := Lib.hid (bthen Hb0.out Hb2.out)
        have HX2 := Lib.hid (HX.out.below Hb2.out (by have := Hs0.out; omega))
        obtain ⟨x0, x1, x2, x3, x4, x5, x6, x7, x8, x9, x10, x11⟩ := HX2.out.ddl
        have HO2 := Lib.hid (HO0.out.below Hb2.out)
        have HC2 := Lib.hid (HC0.out.below Hb2.out)
        have HT2 := Lib.hid (HT.out.below Hb2.out (Nat.le_refl _))
        obtain ⟨d0, d1, d2, d3, d4⟩ := tab_cells HO2.out Hk.out
        rw [hA9, hc9] at d4
        have HF2 := Lib.hid (HF.out w2.drew HT2.out.drew HC2.out)
        go_wp2_with fail
        go_region_with (first
          | (go_at_call 74; refine HF2.out.mono ?_; rintro e w3 ⟨rfl, hbad, hok⟩; have Hbad := Lib.hid hbad; have Hok := Lib.hid hok; clear hbad hok)
          | fail)
        all_goals
          go_wp2_with fail
          go_ret
          by_cases hF : F = 0
          · obtain ⟨h1, h2⟩ := Hok.out hF
            have h3 := Hfin.out w2.drew w3 _ Hb2w.out.drew HO2.out h1 (by simp) Hcs.out.symm h2
            exact ⟨by rw [He3.out]; rfl, h3.1, fun _ => h3.2⟩
          · exact ⟨by rw [He3.out]; rfl, .of_below (bthen Hb2w.out.drew (Hbad.out hF)), fun h => absurd (He3.out.symm.trans h) hF⟩
end Go.Proofs.YthmjgaekcghonaaGreatDoor

/-
  Contract of package ddl's change: one change of a catalog of the call's own.
-/
namespace Go.Proofs.YthmjgaekcghonaaGreatDoor
open Go.RowKit

theorem fits_col {W : World} {b : Nat} {u : Tb} (h : OwnC W b (.slice u.A u.cols.length u.cap) u.cols) : u.cols.length ≤ u.cap := by
  obtain ⟨A9, cap9, e, h9, _⟩ := h.form
  injection e with _ _ e3
  omega
theorem map_erase : ∀ (l : List Tb) (k : Nat), (l.eraseIdx k).map Tb.p = (l.map Tb.p).eraseIdx k
  | [], k => rfl
  | a :: r, 0 => rfl
  | a :: r, k + 1 => by simp [map_erase r k]
/-- what a change of one table leaves -/
theorem OwnCat.cat {w w' : World} {B Bc B2 g cap bx : Nat} {l : List Tb} {k : Nat} {t t' : Tb} {R : List Tp} (h : OwnCat w B Bc (.slice (some ⟨g, 0, none⟩) l.length cap) l) (hk : l[k]? = some t) (hcap : l.length ≤ cap)
    (hrow : OwnTb w' B (.slice (some ⟨g, 0, none⟩) l.length cap) (l.set k t')) (hcol : OwnC w' B2 (.slice t'.A t'.cols.length t'.cap) t'.cols)
    (hw : Off (fun x => x = g ∨ colBk t = some x) w w') (hbn : ¬ InCat (.slice (some ⟨g, 0, none⟩) l.length cap) l bx) (hbx : w.cell? ⟨bx, 0, none⟩ = some (.slice (some ⟨g, 0, none⟩) l.length cap)) (hR : (l.map Tb.p).set k t'.p = R) :
    ∃ A' cap' l', w'.cell? ⟨bx, 0, none⟩ = some (.slice A' l'.length cap') ∧ CatAt w' A' cap' l' ∧ l'.map Tb.p = R := by
  refine ⟨some ⟨g, 0, none⟩, cap, l.set k t', ?_, ⟨h.set hk hrow hcol hw, by rw [List.length_set]; exact hcap, fun s hs => ?_⟩, by rw [List.map_set]; exact hR⟩
  · rw [List.length_set]
    refine hw.keep hbx fun e => hbn ?_
    rcases e with e | e
    · exact .inl (congrArg some (Eq.symm e))
    · exact .inr ⟨t, List.mem_of_getElem? hk, e⟩
  · rcases List.mem_or_eq_of_mem_set hs with hs | rfl
    · exact fits_col (h.cols s hs)
    · exact fits_col hcol
theorem in_cat {g n cap k : Nat} {l : List Tb} {t : Tb} (hk : l[k]? = some t) {w w' : World} (h : Off (fun x => x = g ∨ colBk t = some x) w w') : Off (fun x => InCat (.slice (some ⟨g, 0, none⟩) n cap) l x) w w' := h.mono fun x _ e => by
  rcases e with e | e
  · left; show some g = some x; rw [e]
  · exact .inr ⟨t, List.mem_of_getElem? hk, e⟩
/-- what is left when a table is removed -/
theorem OwnCat.drop {w w' : World} {B Bc g cap bx k : Nat} {l : List Tb} {R : List Tp} (h : OwnCat w B Bc (.slice (some ⟨g, 0, none⟩) l.length cap) l) (hkl : k < l.length) (hcap : l.length ≤ cap)
    (hrow : OwnTb w' B (.slice (some ⟨g, 0, none⟩) (l.length - 1) cap) (l.eraseIdx k)) (hw : Off (fun x => x = g) w w') (hbn : ¬ InCat (.slice (some ⟨g, 0, none⟩) l.length cap) l bx) (hbx : w.heap[bx]? = some (.cells #[.slice (some ⟨g, 0, none⟩) l.length cap] 24 (0, 0)))
    (hR : (l.map Tb.p).eraseIdx k = R) :
    w'.cell? ⟨bx, 0, none⟩ = some (.slice (some ⟨g, 0, none⟩) l.length cap) ∧ w'.frozen? ⟨bx, 0, none⟩ = false ∧
    Off (fun x => InCat (.slice (some ⟨g, 0, none⟩) l.length cap) l x ∨ x = bx) w (w'.setCell ⟨bx, 0, none⟩ (.slice (some ⟨g, 0, none⟩) (l.length - 1) cap)) ∧
    ∃ A' cap' l', (w'.setCell ⟨bx, 0, none⟩ (.slice (some ⟨g, 0, none⟩) (l.length - 1) cap)).cell? ⟨bx, 0, none⟩ = some (.slice A' l'.length cap') ∧ CatAt (w'.setCell ⟨bx, 0, none⟩ (.slice (some ⟨g, 0, none⟩) (l.length - 1) cap)) A' cap' l' ∧ l'.map Tb.p = R := by
  have hne : bx ≠ g := fun e => hbn (.inl (by show some g = some bx; rw [e]))
  have hbw : bx < w.heap.size := (Array.getElem?_eq_some_iff.1 hbx).1
  have hb : w'.heap[bx]? = some (.cells #[.slice (some ⟨g, 0, none⟩) l.length cap] 24 (0, 0)) := (hw.block bx hbw hne).trans hbx
  have hc : w'.cell? ⟨bx, 0, none⟩ = some (.slice (some ⟨g, 0, none⟩) l.length cap) := by rw [cell_of_row w' bx 0 _ _ (0, 0) hb]; rfl
  have hel : (l.eraseIdx k).length = l.length - 1 := by rw [List.length_eraseIdx, if_pos hkl]
  have hof := Off.set w' bx 0 (.slice (some ⟨g, 0, none⟩) (l.length - 1) cap)
  refine ⟨hc, frozen_of_row w' bx 0 _ _ hb, ?_, some ⟨g, 0, none⟩, cap, l.eraseIdx k, ?_, ⟨⟨?_, fun t ht => ?_⟩, by omega, fun t ht => fits_col (h.cols t (List.mem_of_mem_eraseIdx ht))⟩, ?_⟩
  · exact (hw.mono fun x _ e => .inl (.inl (by show some g = some x; rw [e]))).trans (hof.mono fun x _ e => .inr e)
  · rw [hel]; exact World.cell?_setCell_same _ _ _ hc
  · exact (OwnR.off hrow hof (fun x hx e => by
      have : g = x := by simpa [Value.ownBlock] using hx
      omega)).at lenT
  · have htl := List.mem_of_mem_eraseIdx ht
    refine (OwnR.off (OwnR.off (h.cols t htl) hw fun x hx e => ?_) hof fun x hx e => ?_).at lenC
    · have := ((h.cols t htl).lt x hx).1
      have := h.ahead g rfl
      omega
    · exact hbn (.inr ⟨t, htl, hx.trans (congrArg some e)⟩)
  · rw [← hR]
    exact map_erase l k
/-- the error of a change, of a right catalog and a plain change -/
noncomputable def chgE (L : List Tp) (d : Dp) (id : Int) : Int := if d.op = 1 then createE L d id else match (findT L d.tb).bind fun k => L[k]? with
    | none => 12
    | some t => wrongE L t d
set_option maxRecDepth 100000 in
set_option maxHeartbeats 3000000 in
theorem change_any (bx : Nat) (A : Option Addr) (cap : Nat) (l : List Tb) (d : Db) (id : Int) (w : World) (B Bc : Nat) (ht : UTab w) (hO : OwnCat w B Bc (.slice A l.length cap) l) (hbx : w.heap[bx]? = some (.cells #[.slice A l.length cap] 24 (0, 0)))
    (hbn : ¬ InCat (.slice A l.length cap) l bx) (hD : DdlAt w w.heap.size d) (hBw : Bc ≤ w.heap.size) (hR : RightL (l.map Tb.p)) (h64 : ∀ t ∈ l, W64 t.cols) (hop : 1 ≤ d.p.op ∧ d.p.op ≤ 8) (hn : d.p.tb.size ≤ 1000000) (hco : d.p.co.size ≤ 1000000) (hto : d.p.to.size ≤ 1000000) (hw : ∀ c ∈ d.p.cols, c.nm.size ≤ 1000000) :
    Calls Tryz.prog 20 #[.pointer (some ⟨bx, 0, none⟩), DV d, .int .i64 id] w fun e w' => e = .returned (.int .i64 (chgE (l.map Tb.p) d.p id)) ∧ Off (fun x => InCat (.slice A l.length cap) l x ∨ x = bx) w w' ∧
      (chgE (l.map Tb.p) d.p id = 0 → ∃ A' cap' l', w'.cell? ⟨bx, 0, none⟩ = some (.slice A' l'.length cap') ∧ CatAt w' A' cap' l' ∧ l'.map Tb.p = applyR (l.map Tb.p) d.p id) := by
  have hbxw : bx < w.heap.size := (Array.getElem?_eq_some_iff.1 hbx).1
  have hl6 : l.length ≤ 6 := by have := hR.1; rwa [List.length_map] at this
  obtain ⟨w0, hw0, hb0, hX, hs0⟩ := box_ddl w d
  have Hw0 := Lib.hid hw0; clear hw0
  have Hb0 := Lib.hid hb0
  have HO0 := Lib.hid (hO.below hb0)
  have Hbase := Lib.hid hO.base
  clear hO
  have HD0 := Lib.hid (hD.to hb0); clear hD
  have HT := Lib.hid (ht.below hb0 (Nat.le_refl _)); clear ht
  have Hbx0 : Hid (w0.heap[bx]? = some (.cells #[.slice A l.length cap] 24 (0, 0))) := (hb0.block bx hbxw).trans hbx
  clear hbx
  have HBw0 : Hid (Bc ≤ w0.heap.size) := Nat.le_trans hBw hb0.size
  have Hs0 := Lib.hid hs0; clear hs0 hb0
  have HX := Lib.hid hX; clear hX
  have Hbn := Lib.hid hbn; clear hbn
  have HR := Lib.hid hR; clear hR
  have H64 := Lib.hid h64; clear h64
  have HWc := Lib.hid hw; clear hw
  obtain ⟨x0, x1, x2, x3, x4, x5, x6, x7, x8, x9, x10, x11⟩ := HX.out.ddl
  by_cases h1 : d.p.op = 1
  · have Hc := Lib.hid (create_any bx A cap l d id w0 B Bc HT.out HO0.out Hbx0.out Hbn.out HD0.out (Nat.le_trans Hbase.out HBw0.out) hl6 HR.out.2.2 hn HWc.out)
    have He : Hid (chgE (l.map Tb.p) d.p id = createE (l.map Tb.p) d.p id) := by show _ = _; unfold chgE; rw [if_pos h1]
    have HRr : Hid (applyR (l.map Tb.p) d.p id = insT (madeT d.p id) (l.map Tb.p)) := by show _ = _; unfold applyR; rw [if_pos h1]
    rw [He.out, HRr.out]
    generalize createE (l.map Tb.p) d.p id = E at Hc ⊢
    rw [← Hw0.out] at Hc
    have q1 : (d.p.op == 1) = true := by rw [beq_iff_eq]; exact h1
    clear h1 hop
    go_enter Tryz.func20, Tryz.ntmps20
    go_wp2_with fail
    refine Hc.out.mono ?_
    rintro e w2 ⟨rfl, hof, hok⟩
    rw [Hw0.out] at hof
    have Hof := Lib.hid (Off.behind Hb0.out hof)
    have Hok := Lib.hid hok
    clear hof hok
    go_wp2_with fail
    go_ret
    exact ⟨rfl, Hof.out, Hok.out⟩
  have q1 : (d.p.op == 1) = false := by rw [beq_eq_false_iff_ne]; exact h1
  have He : Hid (chgE (l.map Tb.p) d.p id = match (findT (l.map Tb.p) d.p.tb).bind fun k => (l.map Tb.p)[k]? with
    | none => 12
    | some t => wrongE (l.map Tb.p) t d.p) := by show _ = _; unfold chgE; rw [if_neg h1]
  have Hop := Lib.hid hop
  have Hn1 := Lib.hid h1
  clear h1 hop
  have HA0 := Lib.hid HO0.out.at
  have HAd : Hid (TabsAt w0.drew w0.drew.heap.size A l) := HA0.out.below (Below.refl _ _).drew
  have HFd := Lib.hid (fun w' hA' => sfind_any A cap l d.p.tb w' hA' (by omega))
  rw [find_p] at HFd
  have c0 : w0.cell? ⟨bx, 0, none⟩ = some (.slice A l.length cap) := by rw [cell_of_row w0 bx 0 _ _ (0, 0) Hbx0.out]; rfl
  have Hc0 := Lib.hid c0
  cases hf : findT (l.map Tb.p) d.p.tb with
  | none =>
    have He2 : Hid (chgE (l.map Tb.p) d.p id = 12) := by show _ = _; rw [He.out, hf]; rfl
    rw [hf, show fstV none = .tuple #[.int .i64 0, .bool false] from rfl] at HFd
    generalize chgE (l.map Tb.p) d.p id = E at He2 ⊢
    clear hf
    go_enter Tryz.func20, Tryz.ntmps20
    go_wp2_with fail
    rw [Hw0.out]
    go_region_with (first
      | (go_at_call 40; refine (HFd.out _ HAd.out).mono ?_; rintro e w2 ⟨rfl, hb2⟩; have Hb2 := Lib.hid (bthen Hb0.out ((Below.refl w0.heap.size w0).drew.trans hb2)); clear hb2)
      | fail)
    all_goals
      go_wp2_with fail
      go_ret
      exact ⟨by rw [He2.out]; rfl, .of_below Hb2.out, fun h => by rw [He2.out] at h; cases h⟩
  | some k =>
    obtain ⟨tp, htp, htn⟩ := findT_some hf
    obtain ⟨t, hk, htp2⟩ : ∃ t, l[k]? = some t ∧ t.p = tp := by
      rw [List.getElem?_map] at htp
      cases hq : l[k]? with
      | none => rw [hq] at htp; cases htp
      | some t => rw [hq] at htp; exact ⟨t, rfl, by simpa using htp⟩
    subst htp2
    have He2 : Hid (chgE (l.map Tb.p) d.p id = wrongE (l.map Tb.p) t.p d.p) := by show _ = _; rw [He.out, hf]; simp only [Option.bind_some, htp]
    have Hrt := Lib.hid (HR.out.2.1 t.p (List.mem_of_getElem? htp))
    have HRr : Hid (applyR (l.map Tb.p) d.p id = if d.p.op = 2 then (l.map Tb.p).eraseIdx k else (l.map Tb.p).set k (tableD t.p d.p)) := by
      show _ = _
      unfold applyR
      rw [if_neg Hn1.out, hf]
      simp only [htp]
    rw [hf, show fstV (some k) = .tuple #[.int .i64 (k : Int), .bool true] from rfl] at HFd
    have Hk := Lib.hid hk
    have hkl := (List.getElem?_eq_some_iff.1 hk).1
    have Htm := Lib.hid (List.mem_of_getElem? hk)
    clear hf hk htp htn He
    obtain ⟨g, cap', hsh, hg1, hg2, hg3, hg4⟩ := OwnR.shape HO0.out.row (by omega)
    cases hsh
    have hgB : g < Bc := HO0.out.ahead g rfl
    have Hht := Lib.hid (show t.cols.length ≤ 10 ∧ 1 ≤ t.cols.length ∧ t.nx ≤ 200 ∧ 0 ≤ t.nx by
      obtain ⟨_, _, a3, a4, a5, a6, _, kc, k1, _⟩ := Hrt.out
      have b1 := a6 kc k1
      have b2 := ((rightC_iff kc).1 b1.1).1
      refine ⟨a5, a4, a3, ?_⟩
      have : kc.id < t.nx := b1.2
      omega)
    have hk0 : (0 : Int) ≤ (k : Int) := by omega
    have hkI : (k : Int) < (l.length : Int) := by omega
    have hwk : IntKind.i64.wrap ((k : Int) + 1) = (k : Int) + 1 := by rw [IntKind.wrap_i64]; omega
    have Hcapl := Lib.hid hg3
    clear hg3 hg4
    rw [He2.out, HRr.out]
    -- the state behind Find
    have Hlater : Hid (∀ w2, Below w0.heap.size w0 w2 → UTab w2 ∧ OwnCat w2 B Bc (.slice (some ⟨g, 0, none⟩) l.length cap) l ∧ w2.heap[bx]? = some (.cells #[.slice (some ⟨g, 0, none⟩) l.length cap] 24 (0, 0)) ∧ w2.cell? ⟨bx, 0, none⟩ = some (.slice (some ⟨g, 0, none⟩) l.length cap) ∧ Bc ≤ w2.heap.size ∧ Below w.heap.size w w2) := fun w2 h2 => by
      have hb2 : w2.heap[bx]? = some (.cells #[.slice (some ⟨g, 0, none⟩) l.length cap] 24 (0, 0)) := (h2.block bx (Nat.lt_of_lt_of_le hbxw Hb0.out.size)).trans Hbx0.out
      exact ⟨HT.out.below h2 (Nat.le_refl _), HO0.out.below h2, hb2, by rw [cell_of_row w2 bx 0 _ _ (0, 0) hb2]; rfl, Nat.le_trans HBw0.out h2.size, bthen Hb0.out h2⟩
    have hne : Nonempty (BelowBy w0.heap.size w0) := ⟨⟨w0, Below.refl _ _⟩⟩
    have P0 : ∀ p : BelowBy w0.heap.size w0, p.x.cell? ⟨bx, 0, none⟩ = some (.slice (some ⟨g, 0, none⟩) l.length cap) := fun p => (p.h.cell (p := ⟨bx, 0, none⟩) (World.block_lt_of_cell? w0 _ Hc0.out)).trans Hc0.out
    have P1 : ∀ p : BelowBy w0.heap.size w0, p.x.cell? ⟨w.heap.size, 1, none⟩ = some (.string d.p.tb) := fun p => (HX.out.below p.h (by have := Hs0.out; omega)).ddl.2.1
    by_cases h2 : d.p.op = 2
    · have Hw0e : Hid (wrongE (l.map Tb.p) t.p d.p = 0) := by show _ = _; unfold wrongE; rw [if_pos h2]
      have HRe : Hid ((if d.p.op = 2 then (l.map Tb.p).eraseIdx k else (l.map Tb.p).set k (tableD t.p d.p)) = (l.map Tb.p).eraseIdx k) := if_pos h2
      rw [HRe.out, Hw0e.out]
      generalize hRR : (l.map Tb.p).eraseIdx k = RR
      have HRR := Lib.hid hRR
      have q2 : (d.p.op == 2) = true := by rw [beq_iff_eq]; exact h2
      clear hRR h2
      go_enter Tryz.func20, Tryz.ntmps20
      go_wp2_with fail
      rw [Hw0.out]
      refine wp_region_below w0.heap.size (by kernel_rfl) (by kernel_rfl) ?_
      repeat (
        with_reducible refine wpQuiet_step (fun K hK => ?_)
        go_simp
        refine hK _ ?_
        clear hK K)
      with_reducible refine wpQuiet_step (fun K hK => ?_)
      go_simp
      apply Exists.intro
      refine ⟨fun p => ?_, hK _ ?_⟩
      exact (HFd.out _ (HA0.out.to p.h)).mono fun e w5 ⟨he, hb⟩ => ⟨he, p.step (Nat.le_refl _) hb⟩
      clear hK K
      repeat (
        with_reducible refine wpQuiet_step (fun K hK => ?_)
        go_simp
        refine hK _ ?_
        clear hK K)
      refine wpQuiet_nil ?_
      rintro _ ⟨p, rfl⟩
      have Hb2 := Lib.hid p.h
      generalize p.x = w2 at Hb2 ⊢
      clear P0 P1 hne p c0 x0 x1 x2 x3 x4 x5 x6 x7 x8 x9 x10 x11
      obtain ⟨x0, x1, x2, x3, x4, x5, x6, x7, x8, x9, x10, x11⟩ := (HX.out.below Hb2.out (by have := Hs0.out; omega)).ddl
      obtain ⟨u1, u2, u3, c0, u5, u6⟩ := Hlater.out w2 Hb2.out
      have HU1 := Lib.hid u1
      have HU2 := Lib.hid u2
      have HU3 := Lib.hid u3
      have HU5 := Lib.hid u5
      have HU6 := Lib.hid u6
      have Hc2 := Lib.hid c0
      clear u1 u2 u3 u5 u6
      have Hdel := Lib.hid (tdel_any g cap k l w2 B HU2.out.row hkl (by omega))
      go_wp2_with fail
      refine Hdel.out.mono ?_
      rintro e w3 ⟨rfl, ho3, hof3⟩
      have HE := Lib.hid (HU2.out.drop hkl Hcapl.out ho3 hof3 Hbn.out HU3.out HRR.out)
      clear ho3 hof3
      have z0 := HE.out.1
      have z1 := HE.out.2.1
      go_wp2_with fail
      go_ret
      exact ⟨rfl, Off.behind HU6.out HE.out.2.2.1, fun _ => HE.out.2.2.2⟩
    have q2 : (d.p.op == 2) = false := by rw [beq_eq_false_iff_ne]; exact h2
    have HRe : Hid ((if d.p.op = 2 then (l.map Tb.p).eraseIdx k else (l.map Tb.p).set k (tableD t.p d.p)) = (l.map Tb.p).set k (tableD t.p d.p)) := if_neg h2
    rw [HRe.out]
    by_cases h3 : d.p.op = 3
    · have Hwe : Hid (wrongE (l.map Tb.p) t.p d.p = renE l d.p.to) := by show _ = _; unfold wrongE renE; rw [if_neg h2, if_pos h3, find_p]
      have Htd : Hid (tableD t.p d.p = ⟨t.id, d.p.to, t.key, t.nx, t.cols⟩) := by show _ = _; unfold tableD colsD; simp [h3]; exact ⟨rfl, rfl, rfl, rfl⟩
      rw [Hwe.out]
      have HrF := Lib.hid (fun w2 a1 a2 a3 => rename_any bx g cap k l t d.p.to w2 B a1 a2 Hk.out a3 (by omega) hto)
      generalize renE l d.p.to = F at HrF ⊢
      generalize hRR : (l.map Tb.p).set k (tableD t.p d.p) = RR
      have HRR := Lib.hid hRR
      have q3 : (d.p.op == 3) = true := by rw [beq_iff_eq]; exact h3
      clear hRR h2 h3
      go_enter Tryz.func20, Tryz.ntmps20
      go_wp2_with fail
      rw [Hw0.out]
      refine wp_region_below w0.heap.size (by kernel_rfl) (by kernel_rfl) ?_
      repeat (
        with_reducible refine wpQuiet_step (fun K hK => ?_)
        go_simp
        refine hK _ ?_
        clear hK K)
      with_reducible refine wpQuiet_step (fun K hK => ?_)
      go_simp
      apply Exists.intro
      refine ⟨fun p => ?_, hK _ ?_⟩
      exact (HFd.out _ (HA0.out.to p.h)).mono fun e w5 ⟨he, hb⟩ => ⟨he, p.step (Nat.le_refl _) hb⟩
      clear hK K
      repeat (
        with_reducible refine wpQuiet_step (fun K hK => ?_)
        go_simp
        refine hK _ ?_
        clear hK K)
      refine wpQuiet_nil ?_
      rintro _ ⟨p, rfl⟩
      have Hb2 := Lib.hid p.h
      generalize p.x = w2 at Hb2 ⊢
      clear P0 P1 hne p c0 x0 x1 x2 x3 x4 x5 x6 x7 x8 x9 x10 x11
      obtain ⟨x0, x1, x2, x3, x4, x5, x6, x7, x8, x9, x10, x11⟩ := (HX.out.below Hb2.out (by have := Hs0.out; omega)).ddl
      obtain ⟨u1, u2, u3, c0, u5, u6⟩ := Hlater.out w2 Hb2.out
      have HU1 := Lib.hid u1
      have HU2 := Lib.hid u2
      have HU3 := Lib.hid u3
      have HU5 := Lib.hid u5
      have HU6 := Lib.hid u6
      have Hc2 := Lib.hid c0
      clear u1 u2 u3 u5 u6
      have Hren := Lib.hid (HrF.out w2 HU2.out.row HU2.out.at Hc2.out)
      go_wp2_with fail
      refine Hren.out.mono ?_
      rintro e w3 ⟨rfl, hbad, hok⟩
      have Hbad := Lib.hid hbad
      have Hok := Lib.hid hok
      clear hbad hok
      go_wp2_with fail
      go_ret
      by_cases hF : F = 0
      · obtain ⟨h1, h2⟩ := Hok.out hF
        have h1' : Off (fun x => x = g ∨ colBk t = some x) w2 w3 := h1.mono fun x _ e => .inl e
        have hcl := (HU2.out.cols t Htm.out).off h1 (fun x hx e => by
          have := ((HU2.out.cols t Htm.out).lt x hx).1
          omega)
        refine ⟨rfl, Off.behind HU6.out ((in_cat Hk.out h1').mono fun x _ e => .inl e), fun _ => ?_⟩
        exact HU2.out.cat (t' := { t with nm := d.p.to }) Hk.out Hcapl.out h2 hcl h1' Hbn.out Hc2.out (by rw [← HRR.out, Htd.out]; rfl)
      · exact ⟨rfl, .of_below (bthen HU6.out (Hbad.out hF)), fun h => absurd h hF⟩
    have q3 : (d.p.op == 3) = false := by rw [beq_eq_false_iff_ne]; exact h3
    by_cases h4 : d.p.op = 4
    · have Hwe : Hid (wrongE (l.map Tb.p) t.p d.p = addE t.p d.p) := by show _ = _; unfold wrongE; rw [if_neg h2, if_neg h3, if_pos h4]
      have Htd : Hid (tableD t.p d.p = ⟨t.id, t.nm, t.key, t.nx + 1, t.cols ++ [{ d.p.col with id := t.nx }]⟩) := by show _ = _; unfold tableD colsD Dp.col; simp [h4]; exact ⟨rfl, rfl, rfl, rfl, rfl, rfl⟩
      rw [Hwe.out]
      have HaF := Lib.hid (fun w2 a1 a2 a3 a4 => add_any g cap k l t d w2 B Bc a1 a2 Hk.out a3 hgB a4 Hht.out.1 hco Hht.out.2.2.2 Hht.out.2.2.1)
      generalize addE t.p d.p = F at HaF ⊢
      generalize hRR : (l.map Tb.p).set k (tableD t.p d.p) = RR
      have HRR := Lib.hid hRR
      have q4 : (d.p.op == 4) = true := by rw [beq_iff_eq]; exact h4
      clear hRR h2 h3 h4
      go_enter Tryz.func20, Tryz.ntmps20
      go_wp2_with fail
      rw [Hw0.out]
      refine wp_region_below w0.heap.size (by kernel_rfl) (by kernel_rfl) ?_
      repeat (
        with_reducible refine wpQuiet_step (fun K hK => ?_)
        go_simp
        refine hK _ ?_
        clear hK K)
      with_reducible refine wpQuiet_step (fun K hK => ?_)
      go_simp
      apply Exists.intro
      refine ⟨fun p => ?_, hK _ ?_⟩
      exact (HFd.out _ (HA0.out.to p.h)).mono fun e w5 ⟨he, hb⟩ => ⟨he, p.step (Nat.le_refl _) hb⟩
      clear hK K
      repeat (
        with_reducible refine wpQuiet_step (fun K hK => ?_)
        go_simp
        refine hK _ ?_
        clear hK K)
      refine wpQuiet_nil ?_
      rintro _ ⟨p, rfl⟩
      have Hb2 := Lib.hid p.h
      generalize p.x = w2 at Hb2 ⊢
      clear P0 P1 hne p c0 x0 x1 x2 x3 x4 x5 x6 x7 x8 x9 x10 x11
      obtain ⟨x0, x1, x2, x3, x4, x5, x6, x7, x8, x9, x10, x11⟩ := (HX.out.below Hb2.out (by have := Hs0.out; omega)).ddl
      obtain ⟨u1, u2, u3, c0, u5, u6⟩ := Hlater.out w2 Hb2.out
      have HU1 := Lib.hid u1
      have HU2 := Lib.hid u2
      have HU3 := Lib.hid u3
      have HU5 := Lib.hid u5
      have HU6 := Lib.hid u6
      have Hc2 := Lib.hid c0
      clear u1 u2 u3 u5 u6
      have Hadd := Lib.hid (HaF.out w2.drew HU1.out.drew HU2.out.row (HU2.out.cols t Htm.out) HU5.out)
      go_wp2_with fail
      go_region_with (first
        | (go_at_call 43; refine Hadd.out.mono ?_; rintro e w3 ⟨rfl, hof, hok⟩; have Hof := Lib.hid hof; have Hok := Lib.hid hok; clear hof hok)
        | fail)
      all_goals
        go_wp2_with fail
        go_ret
        have hof2 : Off (fun x => x = g ∨ colBk t = some x) w2 w3 := (off_drew w2).trans Hof.out
        refine ⟨rfl, Off.behind HU6.out ((in_cat Hk.out hof2).mono fun x _ e => .inl e), fun hF => ?_⟩
        obtain ⟨A', cap', h1, h2⟩ := Hok.out hF
        refine HU2.out.cat (B2 := Bc) (t' := t.more A' cap' d.p.col) Hk.out Hcapl.out h1 ?_ hof2 Hbn.out Hc2.out (by rw [← HRR.out, Htd.out]; rfl)
        show OwnC w3 Bc (.slice A' (t.cols ++ [{ d.p.col with id := t.nx }]).length cap') _
        rw [List.length_append]; exact h2
    have q4 : (d.p.op == 4) = false := by rw [beq_eq_false_iff_ne]; exact h4
    have h58 : d.p.op = 5 ∨ d.p.op = 6 ∨ d.p.op = 7 ∨ d.p.op = 8 := by have := Hop.out; have := Hn1.out; omega
    generalize hRR : (l.map Tb.p).set k (tableD t.p d.p) = RR
    have HRR := Lib.hid hRR
    clear hRR h2 h3 h4
    have HCh := Lib.hid (fun w' ht' hO' hC' => chcol_any g cap k l t d w' B Bc ht' hO' Hk.out hC' hgB (by have := Hht.out.2.1; omega) Hht.out.1 hto (fun c hc => (Hrt.out.2.2.2.2.2.1 c hc).1) (H64.out t Htm.out) Hrt.out.2.2.2.2.2.2.1 (l.map Tb.p) h58)
    generalize wrongE (l.map Tb.p) t.p d.p = F at HCh ⊢
    clear h58
    go_enter Tryz.func20, Tryz.ntmps20
    go_wp2_with fail
    rw [Hw0.out]
    refine wp_region_below w0.heap.size (by kernel_rfl) (by kernel_rfl) ?_
    repeat (
      with_reducible refine wpQuiet_step (fun K hK => ?_)
      go_simp
      refine hK _ ?_
      clear hK K)
    with_reducible refine wpQuiet_step (fun K hK => ?_)
    go_simp
    apply Exists.intro
    refine ⟨fun p => ?_, hK _ ?_⟩
    exact (HFd.out _ (HA0.out.to p.h)).mono fun e w5 ⟨he, hb⟩ => ⟨he, p.step (Nat.le_refl _) hb⟩
    clear hK K
    repeat (
      with_reducible refine wpQuiet_step (fun K hK => ?_)
      go_simp
      refine hK _ ?_
      clear hK K)
    refine wpQuiet_nil ?_
    rintro _ ⟨p, rfl⟩
    have Hb2 := Lib.hid p.h
    generalize p.x = w2 at Hb2 ⊢
    clear P0 P1 hne p c0 x0 x1 x2 x3 x4 x5 x6 x7 x8 x9 x10 x11
    obtain ⟨x0, x1, x2, x3, x4, x5, x6, x7, x8, x9, x10, x11⟩ := (HX.out.below Hb2.out (by have := Hs0.out; omega)).ddl
    obtain ⟨u1, u2, u3, c0, u5, u6⟩ := Hlater.out w2 Hb2.out
    have HU1 := Lib.hid u1
    have HU2 := Lib.hid u2
    have HU3 := Lib.hid u3
    have HU5 := Lib.hid u5
    have HU6 := Lib.hid u6
    have Hc2 := Lib.hid c0
    clear u1 u2 u3 u5 u6
    have HCh2 := Lib.hid (HCh.out w2.drew HU1.out.drew HU2.out.row (HU2.out.cols t Htm.out))
    go_wp2_with fail
    go_region_with (first
      | (go_at_call 44; refine HCh2.out.mono ?_; rintro e w3 ⟨rfl, hof, hok⟩; have Hof := Lib.hid hof; have Hok := Lib.hid hok; clear hof hok)
      | fail)
    all_goals
      go_wp2_with fail
      go_ret
      have hof2 : Off (fun x => x = g ∨ colBk t = some x) w2 w3 := (off_drew w2).trans Hof.out
      refine ⟨rfl, Off.behind HU6.out ((in_cat Hk.out hof2).mono fun x _ e => .inl e), fun hF => ?_⟩
      obtain ⟨t', h0, h1, h2⟩ := Hok.out hF
      exact HU2.out.cat (t' := t') Hk.out Hcapl.out h1 h2 hof2 Hbn.out Hc2.out (by rw [← HRR.out, h0])
end Go.Proofs.YthmjgaekcghonaaGreatDoor

/-
  Contracts of package ddl's partsOf, withId and Plain.
-/
namespace Go.Proofs.YthmjgaekcghonaaGreatDoor
open Go.RowKit

/-- the parts of a change that are compared at once -/
structure Pp where
  op : Int
  tb : ByteArray
  co : ByteArray
  to : ByteArray
  key : ByteArray
  tk : Int
  tm : Int
  nl : Bool
  dk : Int
  dn : Int
  ds : ByteArray
  n : Int
abbrev PV (p : Pp) : Value := .agg #[.int .i64 p.op, .string p.tb, .string p.co, .string p.to, .string p.key, .int .i64 p.tk, .int .i64 p.tm, .bool p.nl, .int .i64 p.dk, .int .i64 p.dn, .string p.ds, .int .i64 p.n]
def eqP (a b : Pp) : Bool := (a.op == b.op) && (eqS a.tb b.tb && (eqS a.co b.co && (eqS a.to b.to && (eqS a.key b.key && ((a.tk == b.tk) && ((a.tm == b.tm) && ((a.nl == b.nl) && ((a.dk == b.dk) && ((a.dn == b.dn) && (eqS a.ds b.ds && (a.n == b.n)))))))))))
set_option maxRecDepth 100000 in
set_option maxHeartbeats 1000000 in
theorem run_eql_P (w : World) (a b : Pp) : (binOp .eql 70 (PV a) (PV b)).run Tryz.prog w = .ok (.bool (eqP a b)) w := by
  unfold eqP
  cases h0 : (a.op == b.op)
  · simp [go_sem, h0]
  cases h1 : (a.tb.toList == b.tb.toList)
  · simp [go_sem, h0, h1]
  cases h2 : (a.co.toList == b.co.toList)
  · simp [go_sem, h0, h1, h2]
  cases h3 : (a.to.toList == b.to.toList)
  · simp [go_sem, h0, h1, h2, h3]
  cases h4 : (a.key.toList == b.key.toList)
  · simp [go_sem, h0, h1, h2, h3, h4]
  cases h5 : (a.tk == b.tk)
  · simp [go_sem, h0, h1, h2, h3, h4, h5]
  cases h6 : (a.tm == b.tm)
  · simp [go_sem, h0, h1, h2, h3, h4, h5, h6]
  cases h7 : (a.nl == b.nl)
  · simp [go_sem, h0, h1, h2, h3, h4, h5, h6, h7]
  cases h8 : (a.dk == b.dk)
  · simp [go_sem, h0, h1, h2, h3, h4, h5, h6, h7, h8]
  cases h9 : (a.dn == b.dn)
  · simp [go_sem, h0, h1, h2, h3, h4, h5, h6, h7, h8, h9]
  cases h10 : (a.ds.toList == b.ds.toList)
  · simp [go_sem, h0, h1, h2, h3, h4, h5, h6, h7, h8, h9, h10]
  cases h11 : (a.n == b.n)
  · simp [go_sem, h0, h1, h2, h3, h4, h5, h6, h7, h8, h9, h10, h11]
  simp [go_sem, h0, h1, h2, h3, h4, h5, h6, h7, h8, h9, h10, h11]
def Db.parts (d : Db) : Pp := ⟨d.p.op, d.p.tb, d.p.co, d.p.to, d.p.key, d.p.tk, d.p.tm, d.p.nl, d.p.dk, d.p.dn, d.p.ds, (d.p.cols.length : Int)⟩
set_option maxRecDepth 100000 in
theorem parts_any (d : Db) (w : World) : Calls Tryz.prog 35 #[DV d] w fun e w' => e = .returned (PV d.parts) ∧ Below w.heap.size w w' := by
  go_enter Tryz.func35, Tryz.ntmps35
  go_wp2_with fail
  go_returns
  exact ⟨rfl, by go_grown⟩
set_option maxRecDepth 100000 in
set_option maxHeartbeats 1000000 in
theorem withId_any (A : Option Addr) (cp : Nat) (l : List Cb) (w : World) (hA : ColsAt w w.heap.size A l) (hl : l.length ≤ 1000000) :
    Calls Tryz.prog 36 #[.slice A l.length cp] w fun e w' => e = .returned (.int .i64 ((l.countP fun c => c.id != 0 : Nat) : Int)) ∧ Below w.heap.size w w' := by
  have HA := Lib.hid hA; clear hA
  go_enter Tryz.func36, Tryz.ntmps36
  go_wp2_with fail
  go_loopw [3, 8] (fun v i wr => ∃ k : Nat, k ≤ l.length ∧ i = .int .i64 k ∧ v = .int .i64 (((l.take k).countP fun c => c.id != 0 : Nat) : Int) ∧ Hid (Below w.heap.size w wr)) (fun _ i _ => l.length - (intOf i).toNat)
  case atStart => exact ⟨0, by omega, rfl, by simp, Below.refl _ _⟩
  case round =>
    obtain ⟨k, hk, rfl, rfl, hb⟩ := hrel
    by_cases hlt : k < l.length
    · obtain ⟨c, hc⟩ : ∃ c, l[k]? = some c := ⟨l[k], by simp [hlt]⟩
      have Hn := Lib.hid (countP_take (fun c : Cb => c.id != 0) l k c hc)
      have hle : (l.take k).countP (fun c : Cb => c.id != 0) ≤ k := Nat.le_trans List.countP_le_length (by rw [List.length_take]; omega)
      obtain ⟨b, off, rfl, hbB, d0, d1, d2, d3, d4, d5, d6, d7⟩ := ColsAt.get (RowAt.below HA.out hb.out) k c hc
      obtain ⟨w2, hw2, hb2, hX, hs2⟩ := box_col wr c
      have Hw2 := Lib.hid hw2; clear hw2
      have Hb2 := Lib.hid (bthen hb.out hb2); clear hb2 hX hs2 hc
      generalize (l.take k).countP (fun c : Cb => c.id != 0) = q at Hn hle ⊢
      cases hz : c.id != 0
      · have hd := hz
        rw [hz] at Hn
        clear hd
        go_wp2_with fail
        rw [Hw2.out]
        go_round
        case rel => exact ⟨k + 1, by omega, by go_num, by rw [Hn.out]; go_num, Hb2.out⟩
        case measure => simp [intOf]; omega
      · rw [hz] at Hn
        go_wp2_with fail
        rw [Hw2.out]
        go_round
        case rel => exact ⟨k + 1, by omega, by go_num, by rw [Hn.out]; go_num, Hb2.out⟩
        case measure => simp [intOf]; omega
    · have hlt' : decide ((k : Int) < (l.length : Int)) = false := by simp; omega
      obtain rfl : k = l.length := by omega
      have He : Hid (l.take l.length = l) := List.take_length
      generalize hq : (l.take l.length).countP (fun c : Cb => c.id != 0) = q
      rw [He.out] at hq
      have Hq := Lib.hid hq
      clear hq
      go_wp2_with fail
      go_ret
      exact ⟨by rw [Hq.out]; rfl, hb.out⟩
theorem countP_zero (l : List Cb) : (((l.countP fun c => c.id != 0 : Nat) : Int) == 0) = l.all fun c => c.id == 0 := by
  apply bool_eq
  rw [beq_iff_eq, List.all_eq_true]
  constructor
  · intro h c hc
    have h0 : (l.countP fun c => c.id != 0) = 0 := by omega
    rw [List.countP_eq_zero] at h0
    have := h0 c hc
    simpa using this
  · intro h
    have h0 : (l.countP fun c => c.id != 0) = 0 := by
      rw [List.countP_eq_zero]
      intro c hc
      have := h c hc
      simpa using this
    omega
theorem len_zero (l : List Cb) : ((l.length : Int) == 0) = l.isEmpty := by cases l <;> rfl
/-- the parts that a change of its kind does not have -/
def restP (d : Dp) (n : Int) : Pp :=
  if d.op = 1 then ⟨0, ⟨#[]⟩, d.co, d.to, ⟨#[]⟩, d.tk, d.tm, d.nl, d.dk, d.dn, d.ds, ((d.cols.countP fun c => c.id != 0 : Nat) : Int)⟩
  else if d.op = 2 then ⟨0, ⟨#[]⟩, d.co, d.to, d.key, d.tk, d.tm, d.nl, d.dk, d.dn, d.ds, n⟩
  else if d.op = 3 then ⟨0, ⟨#[]⟩, d.co, ⟨#[]⟩, d.key, d.tk, d.tm, d.nl, d.dk, d.dn, d.ds, n⟩
  else if d.op = 4 then ⟨0, ⟨#[]⟩, ⟨#[]⟩, d.to, d.key, 0, 0, false, 0, 0, ⟨#[]⟩, n⟩
  else if d.op = 5 then ⟨0, ⟨#[]⟩, ⟨#[]⟩, d.to, d.key, d.tk, d.tm, d.nl, d.dk, d.dn, d.ds, n⟩
  else if d.op = 6 then ⟨0, ⟨#[]⟩, ⟨#[]⟩, ⟨#[]⟩, d.key, d.tk, d.tm, d.nl, d.dk, d.dn, d.ds, n⟩
  else if d.op = 7 then ⟨0, ⟨#[]⟩, ⟨#[]⟩, d.to, d.key, 0, 0, d.nl, d.dk, d.dn, d.ds, n⟩
  else ⟨0, ⟨#[]⟩, ⟨#[]⟩, d.to, d.key, d.tk, d.tm, d.nl, 0, 0, ⟨#[]⟩, n⟩
def zeroP : Pp := ⟨0, ⟨#[]⟩, ⟨#[]⟩, ⟨#[]⟩, ⟨#[]⟩, 0, 0, false, 0, 0, ⟨#[]⟩, 0⟩
set_option linter.unusedSimpArgs false in
theorem rest_plain (d : Dp) (h : 1 ≤ d.op ∧ d.op ≤ 8) : eqP (restP d (d.cols.length : Int)) zeroP = plainD d := by
  have hnl : ∀ b : Bool, (b == false) = !b := fun b => by cases b <;> rfl
  have hz : ∀ s : ByteArray, eqS s (⟨#[]⟩ : ByteArray) = emp s := fun s => rfl
  have hzz : emp (⟨#[]⟩ : ByteArray) = true := eqS_self _
  have hzd : zDf d = ((d.dk == 0) && ((d.dn == 0) && emp d.ds)) := rfl
  have hzt : zTy d = ((d.tk == 0) && (d.tm == 0)) := rfl
  have hzc : zCo d = d.cols.isEmpty := rfl
  by_cases e : d.op = 1
  · unfold plainD restP eqP zeroP
    rw [if_pos e, if_pos e]
    simp only [hnl, hz, hzz, hzd, hzt, hzc, countP_zero, len_zero, beq_self_eq_true, Bool.and_assoc, Bool.true_and, Bool.not_false]
  by_cases e : d.op = 2
  · unfold plainD restP eqP zeroP
    rw [if_neg (by omega), if_pos e, if_neg (by omega), if_pos e]
    simp only [hnl, hz, hzz, hzd, hzt, hzc, countP_zero, len_zero, beq_self_eq_true, Bool.and_assoc, Bool.true_and, Bool.not_false]
  by_cases e : d.op = 3
  · unfold plainD restP eqP zeroP
    rw [if_neg (by omega), if_neg (by omega), if_pos e, if_neg (by omega), if_neg (by omega), if_pos e]
    simp only [hnl, hz, hzz, hzd, hzt, hzc, countP_zero, len_zero, beq_self_eq_true, Bool.and_assoc, Bool.true_and, Bool.not_false]
  by_cases e : d.op = 4
  · unfold plainD restP eqP zeroP
    rw [if_neg (by omega), if_neg (by omega), if_neg (by omega), if_pos e, if_neg (by omega), if_neg (by omega), if_neg (by omega), if_pos e]
    simp only [hnl, hz, hzz, hzd, hzt, hzc, countP_zero, len_zero, beq_self_eq_true, Bool.and_assoc, Bool.true_and, Bool.not_false]
  by_cases e : d.op = 5
  · unfold plainD restP eqP zeroP
    rw [if_neg (by omega), if_neg (by omega), if_neg (by omega), if_neg (by omega), if_pos e, if_neg (by omega), if_neg (by omega), if_neg (by omega), if_neg (by omega), if_pos e]
    simp only [hnl, hz, hzz, hzd, hzt, hzc, countP_zero, len_zero, beq_self_eq_true, Bool.and_assoc, Bool.true_and, Bool.not_false]
  by_cases e : d.op = 6
  · unfold plainD restP eqP zeroP
    rw [if_neg (by omega), if_neg (by omega), if_neg (by omega), if_neg (by omega), if_neg (by omega), if_pos e, if_neg (by omega), if_neg (by omega), if_neg (by omega), if_neg (by omega), if_neg (by omega), if_pos e]
    simp only [hnl, hz, hzz, hzd, hzt, hzc, countP_zero, len_zero, beq_self_eq_true, Bool.and_assoc, Bool.true_and, Bool.not_false]
  by_cases e : d.op = 7
  · unfold plainD restP eqP zeroP
    rw [if_neg (by omega), if_neg (by omega), if_neg (by omega), if_neg (by omega), if_neg (by omega), if_neg (by omega), if_pos e, if_neg (by omega), if_neg (by omega), if_neg (by omega), if_neg (by omega), if_neg (by omega), if_neg (by omega), if_pos e]
    simp only [hnl, hz, hzz, hzd, hzt, hzc, countP_zero, len_zero, beq_self_eq_true, Bool.and_assoc, Bool.true_and, Bool.not_false]
  by_cases e : d.op = 8
  · unfold plainD restP eqP zeroP
    rw [if_neg (by omega), if_neg (by omega), if_neg (by omega), if_neg (by omega), if_neg (by omega), if_neg (by omega), if_neg (by omega), if_neg (by omega), if_neg (by omega), if_neg (by omega), if_neg (by omega), if_neg (by omega), if_neg (by omega), if_neg (by omega), if_pos e]
    simp only [hnl, hz, hzz, hzd, hzt, hzc, countP_zero, len_zero, beq_self_eq_true, Bool.and_assoc, Bool.true_and, Bool.not_false]
  omega
end Go.Proofs.YthmjgaekcghonaaGreatDoor

/-
  Contract of package ddl's Plain.
-/
namespace Go.Proofs.YthmjgaekcghonaaGreatDoor
open Go.RowKit

theorem plainD_no (d : Dp) (h : ¬ (1 ≤ d.op ∧ d.op ≤ 8)) : plainD d = false := by
  cases hp : plainD d with
  | false => rfl
  | true => exact absurd (plainD_op hp) h
set_option maxRecDepth 100000 in
set_option maxHeartbeats 3000000 in
theorem dplain_any (d : Db) (w : World) (hD : DdlAt w w.heap.size d) (hl : d.p.cols.length ≤ 1000000) : Calls Tryz.prog 18 #[DV d] w fun e w' => e = .returned (.bool (plainD d.p)) ∧ Below w.heap.size w w' := by
  obtain ⟨w0, hw0, hb0, hX, hs0⟩ := box_ddl w d
  have Hw0 := Lib.hid hw0; clear hw0
  have Hb0 := Lib.hid hb0
  have HD0 := Lib.hid (hD.to hb0); clear hD hb0
  have HX := Lib.hid hX; clear hX
  have Hs0 := Lib.hid hs0; clear hs0
  have HP := Lib.hid (parts_any d w0)
  rw [← Hw0.out] at HP
  have HI := Lib.hid (fun w' hA' => withId_any d.A d.cap d.p.cols w' hA' hl)
  have q : ∀ (w : World) (v_op : Int) (v_tb : ByteArray) (v_co : ByteArray) (v_to : ByteArray) (v_key : ByteArray) (v_tk : Int) (v_tm : Int) (v_nl : Bool) (v_dk : Int) (v_dn : Int) (v_ds : ByteArray) (v_n : Int), (binOp .eql 70 (.agg #[.int .i64 v_op, .string v_tb, .string v_co, .string v_to, .string v_key, .int .i64 v_tk, .int .i64 v_tm, .bool v_nl, .int .i64 v_dk, .int .i64 v_dn, .string v_ds, .int .i64 v_n]) (.agg #[.int .i64 0, .string ⟨#[]⟩, .string ⟨#[]⟩, .string ⟨#[]⟩, .string ⟨#[]⟩, .int .i64 0, .int .i64 0, .bool false, .int .i64 0, .int .i64 0, .string ⟨#[]⟩, .int .i64 0])).run Tryz.prog w = .ok (.bool (eqP ⟨v_op, v_tb, v_co, v_to, v_key, v_tk, v_tm, v_nl, v_dk, v_dn, v_ds, v_n⟩ zeroP)) w := fun w v_op v_tb v_co v_to v_key v_tk v_tm v_nl v_dk v_dn v_ds v_n => run_eql_P w ⟨v_op, v_tb, v_co, v_to, v_key, v_tk, v_tm, v_nl, v_dk, v_dn, v_ds, v_n⟩ zeroP
  by_cases e1 : d.p.op = 1
  · have e := e1
    have Hv : Hid (plainD d.p = eqP (restP d.p (d.p.cols.length : Int)) zeroP) := (rest_plain d.p (by omega)).symm
    have Hr : Hid (restP d.p (d.p.cols.length : Int) = ⟨0, ⟨#[]⟩, d.p.co, d.p.to, ⟨#[]⟩, d.p.tk, d.p.tm, d.p.nl, d.p.dk, d.p.dn, d.p.ds, ((d.p.cols.countP fun c => c.id != 0 : Nat) : Int)⟩) := by show _ = _; unfold restP; rw [if_pos e]
    rw [Hr.out] at Hv
    generalize plainD d.p = R at Hv ⊢
    have q1 : (d.p.op == 1) = true := by rw [beq_iff_eq]; exact e
    clear e e1
    go_enter Tryz.func18, Tryz.ntmps18
    go_wp2_with fail
    refine HP.out.mono ?_
    rintro e w1 ⟨rfl, hb1⟩
    rw [Hw0.out] at hb1
    have Hb1 := Lib.hid hb1
    have HX1 := Lib.hid (HX.out.below hb1 (by have := Hs0.out; omega))
    have hne : w.heap.size ≠ w1.heap.size := by have := hb1.size; have := Hs0.out; omega
    have hne' : w1.heap.size ≠ w.heap.size := fun h => hne h.symm
    clear hb1
    obtain ⟨x0, x1, x2, x3, x4, x5, x6, x7, x8, x9, x10, x11⟩ := HX1.out.ddl
    have k0 := fun o => keep_alloc x0 o
    have k11 := fun o => keep_alloc x11 o
    unfold Db.parts
    have HI1 := Lib.hid (fun X (hX : Below w1.heap.size w1 X) => HI.out X (RowAt.to (HD0.out.to Hb1.out) hX))
    go_wp2_with fail
    refine (HI1.out _ (by go_grown)).mono ?_
    rintro e w2 ⟨rfl, hb2⟩
    have HBk : Hid (BlkN w2 w1.heap.size [.int .i64 0, .string ⟨#[]⟩, .string d.p.co, .string d.p.to, .string d.p.key, .int .i64 d.p.tk, .int .i64 d.p.tm, .bool d.p.nl, .int .i64 d.p.dk, .int .i64 d.p.dn, .string d.p.ds, .int .i64 (d.p.cols.length : Int)]) := (BlkN.new w1 _ [.int .i64 0, .string ⟨#[]⟩, .string d.p.co, .string d.p.to, .string d.p.key, .int .i64 d.p.tk, .int .i64 d.p.tm, .bool d.p.nl, .int .i64 d.p.dk, .int .i64 d.p.dn, .string d.p.ds, .int .i64 (d.p.cols.length : Int)] 70 rfl).below hb2 (by simp)
    have g4 : w2.frozen? ⟨w1.heap.size, 4, none⟩ = false := (hb2.frozen (p := ⟨w1.heap.size, 4, none⟩) (by simp)).trans (by simp)
    have g11 : w2.frozen? ⟨w1.heap.size, 11, none⟩ = false := (hb2.frozen (p := ⟨w1.heap.size, 11, none⟩) (by simp)).trans (by simp)
    have Hb2 : Hid (Below w1.heap.size w1 w2) := ((Below.refl w1.heap.size w1).alloc (Nat.le_refl _) _).trans (hb2.mono (by simp))
    clear hb2 x0 x1 x2 x3 x4 x5 x6 x7 x8 x9 x10 x11 k0 k11
    have y0 := HBk.out 0 _ rfl
    have y1 := HBk.out 1 _ rfl
    have y2 := HBk.out 2 _ rfl
    have y3 := HBk.out 3 _ rfl
    have y4 := HBk.out 4 _ rfl
    have y5 := HBk.out 5 _ rfl
    have y6 := HBk.out 6 _ rfl
    have y7 := HBk.out 7 _ rfl
    have y8 := HBk.out 8 _ rfl
    have y9 := HBk.out 9 _ rfl
    have y10 := HBk.out 10 _ rfl
    have y11 := HBk.out 11 _ rfl
    have HbE : Hid (Below w.heap.size w ((w2.setCell ⟨w1.heap.size, 4, none⟩ (.string ⟨#[]⟩)).setCell ⟨w1.heap.size, 11, none⟩ (.int .i64 ((d.p.cols.countP fun c => c.id != 0 : Nat) : Int)))) := by
      have h1 := bthen Hb0.out Hb1.out
      have h2 : w.heap.size ≤ w1.heap.size := h1.size
      exact bput (bput (h1.trans (Hb2.out.mono h2)) h2 4 _) h2 11 _
    generalize (d.p.cols.countP fun c => c.id != 0) = cnt at Hv HbE ⊢
    go_wp2_with fail
    go_ret
    exact ⟨by rw [Hv.out]; rfl, HbE.out⟩
  by_cases e2 : d.p.op = 2
  · have e := e2
    have Hv : Hid (plainD d.p = eqP (restP d.p (d.p.cols.length : Int)) zeroP) := (rest_plain d.p (by omega)).symm
    have Hr : Hid (restP d.p (d.p.cols.length : Int) = ⟨0, ⟨#[]⟩, d.p.co, d.p.to, d.p.key, d.p.tk, d.p.tm, d.p.nl, d.p.dk, d.p.dn, d.p.ds, (d.p.cols.length : Int)⟩) := by show _ = _; unfold restP; rw [if_neg (by omega), if_pos e]
    rw [Hr.out] at Hv
    generalize plainD d.p = R at Hv ⊢
    have q1 : (d.p.op == 1) = false := by rw [beq_eq_false_iff_ne]; omega
    have q2 : (d.p.op == 2) = true := by rw [beq_iff_eq]; exact e
    clear e e1 e2
    go_enter Tryz.func18, Tryz.ntmps18
    go_wp2_with fail
    refine HP.out.mono ?_
    rintro e w1 ⟨rfl, hb1⟩
    rw [Hw0.out] at hb1
    have Hb1 := Lib.hid hb1
    have HX1 := Lib.hid (HX.out.below hb1 (by have := Hs0.out; omega))
    have hne : w.heap.size ≠ w1.heap.size := by have := hb1.size; have := Hs0.out; omega
    have hne' : w1.heap.size ≠ w.heap.size := fun h => hne h.symm
    clear hb1
    obtain ⟨x0, x1, x2, x3, x4, x5, x6, x7, x8, x9, x10, x11⟩ := HX1.out.ddl
    have k0 := fun o => keep_alloc x0 o
    have k11 := fun o => keep_alloc x11 o
    unfold Db.parts
    go_wp2_with fail
    go_ret
    refine ⟨by rw [Hv.out]; rfl, bthen (bthen Hb0.out Hb1.out) ?_⟩
    go_grown
  by_cases e3 : d.p.op = 3
  · have e := e3
    have Hv : Hid (plainD d.p = eqP (restP d.p (d.p.cols.length : Int)) zeroP) := (rest_plain d.p (by omega)).symm
    have Hr : Hid (restP d.p (d.p.cols.length : Int) = ⟨0, ⟨#[]⟩, d.p.co, ⟨#[]⟩, d.p.key, d.p.tk, d.p.tm, d.p.nl, d.p.dk, d.p.dn, d.p.ds, (d.p.cols.length : Int)⟩) := by show _ = _; unfold restP; rw [if_neg (by omega), if_neg (by omega), if_pos e]
    rw [Hr.out] at Hv
    generalize plainD d.p = R at Hv ⊢
    have q1 : (d.p.op == 1) = false := by rw [beq_eq_false_iff_ne]; omega
    have q2 : (d.p.op == 2) = false := by rw [beq_eq_false_iff_ne]; omega
    have q6 : (d.p.op == 6) = false := by rw [beq_eq_false_iff_ne]; omega
    have q3 : (d.p.op == 3) = true := by rw [beq_iff_eq]; exact e
    clear e e1 e2 e3
    go_enter Tryz.func18, Tryz.ntmps18
    go_wp2_with fail
    refine HP.out.mono ?_
    rintro e w1 ⟨rfl, hb1⟩
    rw [Hw0.out] at hb1
    have Hb1 := Lib.hid hb1
    have HX1 := Lib.hid (HX.out.below hb1 (by have := Hs0.out; omega))
    have hne : w.heap.size ≠ w1.heap.size := by have := hb1.size; have := Hs0.out; omega
    have hne' : w1.heap.size ≠ w.heap.size := fun h => hne h.symm
    clear hb1
    obtain ⟨x0, x1, x2, x3, x4, x5, x6, x7, x8, x9, x10, x11⟩ := HX1.out.ddl
    have k0 := fun o => keep_alloc x0 o
    have k11 := fun o => keep_alloc x11 o
    unfold Db.parts
    go_wp2_with fail
    go_ret
    refine ⟨by rw [Hv.out]; rfl, bthen (bthen Hb0.out Hb1.out) ?_⟩
    go_grown
  by_cases e4 : d.p.op = 4
  · have e := e4
    have Hv : Hid (plainD d.p = eqP (restP d.p (d.p.cols.length : Int)) zeroP) := (rest_plain d.p (by omega)).symm
    have Hr : Hid (restP d.p (d.p.cols.length : Int) = ⟨0, ⟨#[]⟩, ⟨#[]⟩, d.p.to, d.p.key, 0, 0, false, 0, 0, ⟨#[]⟩, (d.p.cols.length : Int)⟩) := by show _ = _; unfold restP; rw [if_neg (by omega), if_neg (by omega), if_neg (by omega), if_pos e]
    rw [Hr.out] at Hv
    generalize plainD d.p = R at Hv ⊢
    have q1 : (d.p.op == 1) = false := by rw [beq_eq_false_iff_ne]; omega
    have q2 : (d.p.op == 2) = false := by rw [beq_eq_false_iff_ne]; omega
    have q6 : (d.p.op == 6) = false := by rw [beq_eq_false_iff_ne]; omega
    have q3 : (d.p.op == 3) = false := by rw [beq_eq_false_iff_ne]; omega
    have q4 : (d.p.op == 4) = true := by rw [beq_iff_eq]; exact e
    clear e e1 e2 e3 e4
    go_enter Tryz.func18, Tryz.ntmps18
    go_wp2_with fail
    refine HP.out.mono ?_
    rintro e w1 ⟨rfl, hb1⟩
    rw [Hw0.out] at hb1
    have Hb1 := Lib.hid hb1
    have HX1 := Lib.hid (HX.out.below hb1 (by have := Hs0.out; omega))
    have hne : w.heap.size ≠ w1.heap.size := by have := hb1.size; have := Hs0.out; omega
    have hne' : w1.heap.size ≠ w.heap.size := fun h => hne h.symm
    clear hb1
    obtain ⟨x0, x1, x2, x3, x4, x5, x6, x7, x8, x9, x10, x11⟩ := HX1.out.ddl
    have k0 := fun o => keep_alloc x0 o
    have k11 := fun o => keep_alloc x11 o
    unfold Db.parts
    go_wp2_with fail
    go_ret
    refine ⟨by rw [Hv.out]; rfl, bthen (bthen Hb0.out Hb1.out) ?_⟩
    go_grown
  by_cases e5 : d.p.op = 5
  · have e := e5
    have Hv : Hid (plainD d.p = eqP (restP d.p (d.p.cols.length : Int)) zeroP) := (rest_plain d.p (by omega)).symm
    have Hr : Hid (restP d.p (d.p.cols.length : Int) = ⟨0, ⟨#[]⟩, ⟨#[]⟩, d.p.to, d.p.key, d.p.tk, d.p.tm, d.p.nl, d.p.dk, d.p.dn, d.p.ds, (d.p.cols.length : Int)⟩) := by show _ = _; unfold restP; rw [if_neg (by omega), if_neg (by omega), if_neg (by omega), if_neg (by omega), if_pos e]
    rw [Hr.out] at Hv
    generalize plainD d.p = R at Hv ⊢
    have q1 : (d.p.op == 1) = false := by rw [beq_eq_false_iff_ne]; omega
    have q2 : (d.p.op == 2) = false := by rw [beq_eq_false_iff_ne]; omega
    have q6 : (d.p.op == 6) = false := by rw [beq_eq_false_iff_ne]; omega
    have q3 : (d.p.op == 3) = false := by rw [beq_eq_false_iff_ne]; omega
    have q4 : (d.p.op == 4) = false := by rw [beq_eq_false_iff_ne]; omega
    have q7 : (d.p.op == 7) = false := by rw [beq_eq_false_iff_ne]; omega
    have q5 : (d.p.op == 5) = true := by rw [beq_iff_eq]; exact e
    clear e e1 e2 e3 e4 e5
    go_enter Tryz.func18, Tryz.ntmps18
    go_wp2_with fail
    refine HP.out.mono ?_
    rintro e w1 ⟨rfl, hb1⟩
    rw [Hw0.out] at hb1
    have Hb1 := Lib.hid hb1
    have HX1 := Lib.hid (HX.out.below hb1 (by have := Hs0.out; omega))
    have hne : w.heap.size ≠ w1.heap.size := by have := hb1.size; have := Hs0.out; omega
    have hne' : w1.heap.size ≠ w.heap.size := fun h => hne h.symm
    clear hb1
    obtain ⟨x0, x1, x2, x3, x4, x5, x6, x7, x8, x9, x10, x11⟩ := HX1.out.ddl
    have k0 := fun o => keep_alloc x0 o
    have k11 := fun o => keep_alloc x11 o
    unfold Db.parts
    go_wp2_with fail
    go_ret
    refine ⟨by rw [Hv.out]; rfl, bthen (bthen Hb0.out Hb1.out) ?_⟩
    go_grown
  by_cases e6 : d.p.op = 6
  · have e := e6
    have Hv : Hid (plainD d.p = eqP (restP d.p (d.p.cols.length : Int)) zeroP) := (rest_plain d.p (by omega)).symm
    have Hr : Hid (restP d.p (d.p.cols.length : Int) = ⟨0, ⟨#[]⟩, ⟨#[]⟩, ⟨#[]⟩, d.p.key, d.p.tk, d.p.tm, d.p.nl, d.p.dk, d.p.dn, d.p.ds, (d.p.cols.length : Int)⟩) := by show _ = _; unfold restP; rw [if_neg (by omega), if_neg (by omega), if_neg (by omega), if_neg (by omega), if_neg (by omega), if_pos e]
    rw [Hr.out] at Hv
    generalize plainD d.p = R at Hv ⊢
    have q1 : (d.p.op == 1) = false := by rw [beq_eq_false_iff_ne]; omega
    have q2 : (d.p.op == 2) = false := by rw [beq_eq_false_iff_ne]; omega
    have q6 : (d.p.op == 6) = true := by rw [beq_iff_eq]; exact e
    clear e e1 e2 e3 e4 e5 e6
    go_enter Tryz.func18, Tryz.ntmps18
    go_wp2_with fail
    refine HP.out.mono ?_
    rintro e w1 ⟨rfl, hb1⟩
    rw [Hw0.out] at hb1
    have Hb1 := Lib.hid hb1
    have HX1 := Lib.hid (HX.out.below hb1 (by have := Hs0.out; omega))
    have hne : w.heap.size ≠ w1.heap.size := by have := hb1.size; have := Hs0.out; omega
    have hne' : w1.heap.size ≠ w.heap.size := fun h => hne h.symm
    clear hb1
    obtain ⟨x0, x1, x2, x3, x4, x5, x6, x7, x8, x9, x10, x11⟩ := HX1.out.ddl
    have k0 := fun o => keep_alloc x0 o
    have k11 := fun o => keep_alloc x11 o
    unfold Db.parts
    go_wp2_with fail
    go_ret
    refine ⟨by rw [Hv.out]; rfl, bthen (bthen Hb0.out Hb1.out) ?_⟩
    go_grown
  by_cases e7 : d.p.op = 7
  · have e := e7
    have Hv : Hid (plainD d.p = eqP (restP d.p (d.p.cols.length : Int)) zeroP) := (rest_plain d.p (by omega)).symm
    have Hr : Hid (restP d.p (d.p.cols.length : Int) = ⟨0, ⟨#[]⟩, ⟨#[]⟩, d.p.to, d.p.key, 0, 0, d.p.nl, d.p.dk, d.p.dn, d.p.ds, (d.p.cols.length : Int)⟩) := by show _ = _; unfold restP; rw [if_neg (by omega), if_neg (by omega), if_neg (by omega), if_neg (by omega), if_neg (by omega), if_neg (by omega), if_pos e]
    rw [Hr.out] at Hv
    generalize plainD d.p = R at Hv ⊢
    have q1 : (d.p.op == 1) = false := by rw [beq_eq_false_iff_ne]; omega
    have q2 : (d.p.op == 2) = false := by rw [beq_eq_false_iff_ne]; omega
    have q6 : (d.p.op == 6) = false := by rw [beq_eq_false_iff_ne]; omega
    have q3 : (d.p.op == 3) = false := by rw [beq_eq_false_iff_ne]; omega
    have q4 : (d.p.op == 4) = false := by rw [beq_eq_false_iff_ne]; omega
    have q7 : (d.p.op == 7) = true := by rw [beq_iff_eq]; exact e
    clear e e1 e2 e3 e4 e5 e6 e7
    go_enter Tryz.func18, Tryz.ntmps18
    go_wp2_with fail
    refine HP.out.mono ?_
    rintro e w1 ⟨rfl, hb1⟩
    rw [Hw0.out] at hb1
    have Hb1 := Lib.hid hb1
    have HX1 := Lib.hid (HX.out.below hb1 (by have := Hs0.out; omega))
    have hne : w.heap.size ≠ w1.heap.size := by have := hb1.size; have := Hs0.out; omega
    have hne' : w1.heap.size ≠ w.heap.size := fun h => hne h.symm
    clear hb1
    obtain ⟨x0, x1, x2, x3, x4, x5, x6, x7, x8, x9, x10, x11⟩ := HX1.out.ddl
    have k0 := fun o => keep_alloc x0 o
    have k11 := fun o => keep_alloc x11 o
    unfold Db.parts
    go_wp2_with fail
    go_ret
    refine ⟨by rw [Hv.out]; rfl, bthen (bthen Hb0.out Hb1.out) ?_⟩
    go_grown
  by_cases e8 : d.p.op = 8
  · have e := e8
    have Hv : Hid (plainD d.p = eqP (restP d.p (d.p.cols.length : Int)) zeroP) := (rest_plain d.p (by omega)).symm
    have Hr : Hid (restP d.p (d.p.cols.length : Int) = ⟨0, ⟨#[]⟩, ⟨#[]⟩, d.p.to, d.p.key, d.p.tk, d.p.tm, d.p.nl, 0, 0, ⟨#[]⟩, (d.p.cols.length : Int)⟩) := by show _ = _; unfold restP; rw [if_neg (by omega), if_neg (by omega), if_neg (by omega), if_neg (by omega), if_neg (by omega), if_neg (by omega), if_neg (by omega)]
    rw [Hr.out] at Hv
    generalize plainD d.p = R at Hv ⊢
    have q1 : (d.p.op == 1) = false := by rw [beq_eq_false_iff_ne]; omega
    have q2 : (d.p.op == 2) = false := by rw [beq_eq_false_iff_ne]; omega
    have q6 : (d.p.op == 6) = false := by rw [beq_eq_false_iff_ne]; omega
    have q3 : (d.p.op == 3) = false := by rw [beq_eq_false_iff_ne]; omega
    have q4 : (d.p.op == 4) = false := by rw [beq_eq_false_iff_ne]; omega
    have q7 : (d.p.op == 7) = false := by rw [beq_eq_false_iff_ne]; omega
    have q5 : (d.p.op == 5) = false := by rw [beq_eq_false_iff_ne]; omega
    have q8 : (d.p.op == 8) = true := by rw [beq_iff_eq]; exact e
    clear e e1 e2 e3 e4 e5 e6 e7 e8
    go_enter Tryz.func18, Tryz.ntmps18
    go_wp2_with fail
    refine HP.out.mono ?_
    rintro e w1 ⟨rfl, hb1⟩
    rw [Hw0.out] at hb1
    have Hb1 := Lib.hid hb1
    have HX1 := Lib.hid (HX.out.below hb1 (by have := Hs0.out; omega))
    have hne : w.heap.size ≠ w1.heap.size := by have := hb1.size; have := Hs0.out; omega
    have hne' : w1.heap.size ≠ w.heap.size := fun h => hne h.symm
    clear hb1
    obtain ⟨x0, x1, x2, x3, x4, x5, x6, x7, x8, x9, x10, x11⟩ := HX1.out.ddl
    have k0 := fun o => keep_alloc x0 o
    have k11 := fun o => keep_alloc x11 o
    unfold Db.parts
    go_wp2_with fail
    go_ret
    refine ⟨by rw [Hv.out]; rfl, bthen (bthen Hb0.out Hb1.out) ?_⟩
    go_grown
  have Hv : Hid (plainD d.p = false) := plainD_no d.p (by omega)
  generalize plainD d.p = R at Hv ⊢
  have q1 : (d.p.op == 1) = false := by rw [beq_eq_false_iff_ne]; omega
  have q2 : (d.p.op == 2) = false := by rw [beq_eq_false_iff_ne]; omega
  have q6 : (d.p.op == 6) = false := by rw [beq_eq_false_iff_ne]; omega
  have q3 : (d.p.op == 3) = false := by rw [beq_eq_false_iff_ne]; omega
  have q4 : (d.p.op == 4) = false := by rw [beq_eq_false_iff_ne]; omega
  have q7 : (d.p.op == 7) = false := by rw [beq_eq_false_iff_ne]; omega
  have q5 : (d.p.op == 5) = false := by rw [beq_eq_false_iff_ne]; omega
  have q8 : (d.p.op == 8) = false := by rw [beq_eq_false_iff_ne]; omega
  clear e1 e2 e3 e4 e5 e6 e7 e8
  go_enter Tryz.func18, Tryz.ntmps18
  go_wp2_with fail
  refine HP.out.mono ?_
  rintro e w1 ⟨rfl, hb1⟩
  rw [Hw0.out] at hb1
  have Hb1 := Lib.hid hb1
  have HX1 := Lib.hid (HX.out.below hb1 (by have := Hs0.out; omega))
  have hne : w.heap.size ≠ w1.heap.size := by have := hb1.size; have := Hs0.out; omega
  have hne' : w1.heap.size ≠ w.heap.size := fun h => hne h.symm
  clear hb1
  obtain ⟨x0, x1, x2, x3, x4, x5, x6, x7, x8, x9, x10, x11⟩ := HX1.out.ddl
  have k0 := fun o => keep_alloc x0 o
  have k11 := fun o => keep_alloc x11 o
  unfold Db.parts
  go_wp2_with fail
  go_ret
  refine ⟨by rw [Hv.out]; rfl, bthen (bthen Hb0.out Hb1.out) ?_⟩
  go_grown
end Go.Proofs.YthmjgaekcghonaaGreatDoor
