/-
  Texts that the proof needs, one behind the other: DdlRefTabC, DdlRefMadeC, DdlRPlainC.
-/
import Derived.Deep.CutBlock
import Derived.Deep.DeepCutAuto
import Derived.Test.YthmjgaekcghonaaGreatDoorPart1
import Derived.Test.YthmjgaekcghonaaGreatDoorPart2
import Derived.Test.YthmjgaekcghonaaGreatDoorPart3
import Derived.Test.YthmjgaekcghonaaGreatDoorPart4
import Derived.Test.YthmjgaekcghonaaGreatDoorPart5
import Derived.Test.YthmjgaekcghonaaGreatDoorPart6
import Derived.Test.YthmjgaekcghonaaGreatDoorPart7
import Derived.Test.YthmjgaekcghonaaGreatDoorPart8
import Derived.Test.YthmjgaekcghonaaGreatDoorPart9

/-
  Contract of the document's own Table of layer 9: a table, changed.
-/
namespace Go.Proofs.YthmjgaekcghonaaGreatDoor
open Go.RowKit

/-- a column, changed; none: it is cut -/
def F9 (d : Dp) (c : Cb) : Option Cb :=
  if eqS c.nm d.co = true then (if d.op = 5 then none else if d.op = 6 then some { c with nm := d.to } else if d.op = 7 then some (castC d.tk d.tm c) else if d.op = 8 then some { c with dk := d.dk, dn := d.dn, ds := d.ds } else some c) else some c
/-- the column that is added -/
def newC (t : Tp) (d : Dp) : Cb := ⟨t.nx, d.co, d.tk, d.tm, d.nl, d.dk, d.dn, d.ds⟩
theorem fm_some {α : Type} : ∀ l : List α, l.filterMap some = l
  | [] => rfl
  | a :: r => by simp
theorem fm_if {α β : Type} (p : α → Bool) (f : α → β) : ∀ l : List α, l.filterMap (fun a => if p a = true then none else some (f a)) = (l.filter fun a => !p a).map f
  | [] => rfl
  | a :: r => by
    cases h : p a
    · simp [h, fm_if p f r]
    · simp [h, fm_if p f r]
theorem fm_map {α β : Type} (f : α → β) : ∀ l : List α, l.filterMap (fun a => some (f a)) = l.map f
  | [] => rfl
  | a :: r => by simp
theorem colsD_F (t : Tp) (d : Dp) (h : 3 ≤ d.op ∧ d.op ≤ 8) : colsD t d = t.cols.filterMap (F9 d) ++ (if d.op = 4 then [newC t d] else []) := by
  unfold colsD
  rcases (show d.op = 3 ∨ d.op = 4 ∨ d.op = 5 ∨ d.op = 6 ∨ d.op = 7 ∨ d.op = 8 by omega) with e | e | e | e | e | e
  · have : F9 d = some := by funext c; unfold F9; simp [e]
    rw [this, fm_some]; simp [e]
  · have : F9 d = some := by funext c; unfold F9; simp [e]
    rw [this, fm_some]; simp [e, newC]
  · have : F9 d = fun c => if eqS c.nm d.co = true then none else some (id c) := by funext c; unfold F9; simp [e]
    rw [this, fm_if]; simp [e]
  · have : F9 d = fun c => some (if eqS c.nm d.co = true then { c with nm := d.to } else c) := by funext c; unfold F9; rw [if_neg (show ¬ d.op = 5 by omega), if_pos e]; split <;> rfl
    rw [this, fm_map]; simp [e]
  · have : F9 d = fun c => some (if eqS c.nm d.co = true then castC d.tk d.tm c else c) := by funext c; unfold F9; rw [if_neg (show ¬ d.op = 5 by omega), if_neg (show ¬ d.op = 6 by omega), if_pos e]; split <;> rfl
    rw [this, fm_map]; simp [e]
  · have : F9 d = fun c => some (if eqS c.nm d.co = true then { c with dk := d.dk, dn := d.dn, ds := d.ds } else c) := by funext c; unfold F9; rw [if_neg (show ¬ d.op = 5 by omega), if_neg (show ¬ d.op = 6 by omega), if_neg (show ¬ d.op = 7 by omega), if_pos e]; split <;> rfl
    rw [this, fm_map]; simp [e]
theorem take_snocC {l : List Cb} {k : Nat} {c : Cb} (h : l[k]? = some c) : l.take (k + 1) = l.take k ++ [c] := by
  rw [List.take_add_one, h]; rfl
/-- the boxes of the parameters, the result and the local table -/
theorem box_tdo (w : World) (t u : Tb) (d : Db) : ∃ w0 w1, ((w.alloc (.cells #[.int .i64 t.id, .string t.nm, .int .i64 t.key, .int .i64 t.nx, .slice t.A t.cols.length t.cap] 51)).alloc (.cells #[.int .i64 d.p.op, .string d.p.tb, .string d.p.co, .string d.p.to, .string d.p.key, .int .i64 d.p.tk, .int .i64 d.p.tm, .bool d.p.nl, .int .i64 d.p.dk, .int .i64 d.p.dn, .string d.p.ds, .slice d.A d.p.cols.length d.cap] 31)).alloc (.cells #[.int .i64 0, .string ⟨#[]⟩, .int .i64 0, .int .i64 0, .slice none 0 0] 51) = w0 ∧
    w0.alloc (.cells #[.int .i64 u.id, .string u.nm, .int .i64 u.key, .int .i64 u.nx, .slice u.A u.cols.length u.cap] 51) = w1 ∧
    Below w.heap.size w w0 ∧ BlkN w0 w.heap.size (fT t) ∧ BlkN w0 (w.heap.size + 1) (fD d) ∧ w0.heap[w.heap.size + 2]? = some (.cells #[.int .i64 0, .string ⟨#[]⟩, .int .i64 0, .int .i64 0, .slice none 0 0] 51 (0, 0)) ∧ w0.heap.size = w.heap.size + 3 ∧
    Below w0.heap.size w0 w1 ∧ OwnTb w1 w0.heap.size (.slice (some ⟨w0.heap.size, 0, none⟩) 1 1) [u] ∧ w1.heap.size = w0.heap.size + 1 :=
  ⟨_, _, rfl, rfl, (below_two w _ _).alloc (by simp; omega) _, ((BlkN.new w _ (fT t) _ rfl).alloc (by simp) _).alloc (by simp; omega) _, (BlkN.new _ _ (fD d) _ (by simp)).alloc (by simp) _, by
    have := heap_alloc_new ((w.alloc (.cells (fT t).toArray 51)).alloc (.cells (fD d).toArray 31)) (.cells #[.int .i64 0, .string ⟨#[]⟩, .int .i64 0, .int .i64 0, .slice none 0 0] 51)
    have e : ((w.alloc (.cells (fT t).toArray 51)).alloc (.cells (fD d).toArray 31)).heap.size = w.heap.size + 2 := by simp
    rw [e] at this
    exact this, by simp, below_one _ _, OwnR.box 51 5 fT lenT _ u, by simp⟩
set_option maxRecDepth 100000 in
/-- a result that is a table -/
theorem results_tb1 {fn : Func} {p : Tmp} (h : fn.results = #[.cell p 51]) (tmps : Array Value) (w : World) {b : Nat} {t : Tb} (hp : tmps.getD p undef = .pointer (some ⟨b, 0, none⟩)) (hc : BlkN w b (fT t)) :
    (results fn tmps).run Tryz.prog w = .ok (TV t) w := by
  have hp' : tmps[p]?.getD undef = .pointer (some ⟨b, 0, none⟩) := by simpa using hp
  obtain ⟨c0, c1, c2, c3, c4⟩ := hc.tab
  simp [results, h, go_sem, hp', c0, c1, c2, c3, c4]
/-- a table's five cells stored -/
theorem put_tab {w : World} {b : Nat} {cs : Array Value} {T : TypeId} (t : Tb) (h : w.heap[b]? = some (.cells cs T (0, 0))) (hs : cs.size = 5) : BlkN (((((w.setCell ⟨b, 0, none⟩ (.int .i64 t.id)).setCell ⟨b, 1, none⟩ (.string t.nm)).setCell ⟨b, 2, none⟩ (.int .i64 t.key)).setCell ⟨b, 3, none⟩ (.int .i64 t.nx)).setCell ⟨b, 4, none⟩ (.slice t.A t.cols.length t.cap)) b (fT t) := by
  obtain ⟨a0, a1, a2, a3, a4, rfl⟩ : ∃ a0 a1 a2 a3 a4, cs = #[a0, a1, a2, a3, a4] := by
    obtain ⟨l⟩ := cs
    match l, hs with
    | [a0, a1, a2, a3, a4], _ => exact ⟨a0, a1, a2, a3, a4, rfl⟩
  have h1 := heap_setCell_same w b 0 _ T (.int .i64 t.id) h
  have h2 := heap_setCell_same _ b 1 _ T (.string t.nm) h1
  have h3 := heap_setCell_same _ b 2 _ T (.int .i64 t.key) h2
  have h4 := heap_setCell_same _ b 3 _ T (.int .i64 t.nx) h3
  have h5 := heap_setCell_same _ b 4 _ T (.slice t.A t.cols.length t.cap) h4
  intro i v hv
  rw [cell_of_row _ b i _ T (0, 0) h5]
  match i, hv with
  | 0, hv => simpa [fT] using hv
  | 1, hv => simpa [fT] using hv
  | 2, hv => simpa [fT] using hv
  | 3, hv => simpa [fT] using hv
  | 4, hv => simpa [fT] using hv
  | i + 5, hv => simp [fT] at hv
theorem tab_one {w : World} {B g : Nat} {t : Tb} (h : OwnTb w B (.slice (some ⟨g, 0, none⟩) 1 1) [t]) :
    w.cell? ⟨g, 0, none⟩ = some (.int .i64 t.id) ∧ w.cell? ⟨g, 1, none⟩ = some (.string t.nm) ∧ w.cell? ⟨g, 2, none⟩ = some (.int .i64 t.key) ∧ w.cell? ⟨g, 3, none⟩ = some (.int .i64 t.nx) ∧ w.cell? ⟨g, 4, none⟩ = some (.slice t.A t.cols.length t.cap) := by
  have := tab_cells (l := [t]) (k := 0) h rfl
  simpa using this
/-- five cells stored -/
abbrev set5 (w : World) (b : Nat) (x0 x1 x2 x3 x4 : Value) : World := ((((w.setCell ⟨b, 0, none⟩ x0).setCell ⟨b, 1, none⟩ x1).setCell ⟨b, 2, none⟩ x2).setCell ⟨b, 3, none⟩ x3).setCell ⟨b, 4, none⟩ x4
theorem off_set5 (w : World) (b : Nat) (x0 x1 x2 x3 x4 : Value) : Off (fun k => k = b) w (set5 w b x0 x1 x2 x3 x4) :=
  ((((Off.set w b 0 x0).trans (Off.set _ b 1 x1)).trans (Off.set _ b 2 x2)).trans (Off.set _ b 3 x3)).trans (Off.set _ b 4 x4)
/-- how the document's Table ends -/
def TabEnd (t : Tb) (d : Dp) (w : World) (e : Ending) (w' : World) : Prop := ∃ u, e = .returned (TV u) ∧ u.p = tableD t.p d ∧ OwnC w' w.heap.size (.slice u.A u.cols.length u.cap) u.cols ∧ Below w.heap.size w w'
/-- what may be asked of a Default that is cast -/
def CastsD (t : Tb) (d : Dp) : Prop := d.op = 7 → ∀ c ∈ t.cols, c.nm = d.co → presetD c.tk c.tm c.dk c.dn c.ds = true ∧ wideT d.tk d.tm c.tk c.tm = true
set_option maxRecDepth 100000 in
set_option maxHeartbeats 6400000 in
theorem rtable9_any (t : Tb) (d : Db) (w : World) (hA : TabAt w w.heap.size t) (htl : t.cols.length ≤ 1000000) (hd : WfD d.p) (h64 : W64 t.cols) (ho : 3 ≤ d.p.op ∧ d.p.op ≤ 8) (hnx : 0 ≤ t.nx ∧ t.nx ≤ 1000000) (hcast : CastsD t d.p) :
    Calls Tryz.prog 26 #[TV t, DV d] w fun e w' => TabEnd t d.p w e w' := by
  obtain ⟨nm, hnm⟩ : ∃ nm, (if d.p.op = 3 then d.p.to else t.nm) = nm := ⟨_, rfl⟩
  obtain ⟨w0, w1, hw0, hw1, hb0, hT, hX, hR, hs0, hb1, hO, hs1⟩ := box_tdo w t ⟨t.id, nm, t.key, t.nx, none, 0, []⟩ d
  dsimp only at hw1
  have Hw0 := Lib.hid hw0
  have Hw1 := Lib.hid hw1
  have HbW := Lib.hid hb0
  have HT := Lib.hid hT
  have HX := Lib.hid hX
  have HR := Lib.hid hR
  have Hs0 := Lib.hid hs0
  have Hb1 := Lib.hid hb1
  have Heg : Hid (w0.heap.size = w.heap.size + 1 + 1 + 1) := hs0
  have HO : Hid (OwnTb w1 w0.heap.size (.slice (some ⟨w.heap.size + 1 + 1 + 1, 0, none⟩) 1 1) [⟨t.id, nm, t.key, t.nx, none, 0, []⟩]) := by
    have e : (⟨w0.heap.size, 0, none⟩ : Addr) = ⟨w.heap.size + 1 + 1 + 1, 0, none⟩ := by rw [hs0]
    rw [← e]; exact hO
  have Hs1 := Lib.hid hs1
  have HA := Lib.hid (RowAt.to hA hb0)
  have Hnm := Lib.hid hnm
  have Ho := Lib.hid ho
  have Hcast := Lib.hid hcast
  have H64 := Lib.hid h64
  have Hd := Lib.hid hd
  clear hw0 hw1 hT hX hR hs0 hO hs1 hA hb0 hb1 hnm ho hcast h64 hd
  go_enter Tryz.func26, Tryz.ntmps26
  go_upto_if 19 with fail
  go_cut [] (fun wx => Hid (wx = w1))
  case first =>
    by_cases e3 : d.p.op = 3
    · have q3 : (d.p.op == 3) = true := by rw [beq_iff_eq]; exact e3
      have hn : nm = d.p.to := by rw [← Hnm.out, if_pos e3]
      clear e3
      go_wp2_with fail
      rw [Hw0.out]
      go_meet
      show _ = _
      rw [← Hw1.out, hn]
      rfl
    · have q3 : (d.p.op == 3) = false := by rw [beq_eq_false_iff_ne]; exact e3
      have hn : nm = t.nm := by rw [← Hnm.out, if_neg e3]
      clear e3
      go_wp2_with fail
      rw [Hw0.out]
      go_meet
      show _ = _
      rw [← Hw1.out, hn]
      rfl
  case rest =>
    have hwc : wc = w1 := hcut
    subst hwc
    go_wp2_with fail
    have hO9 := Lib.hid (show OwnTb wc w0.heap.size (.slice (some ⟨w.heap.size + 1 + 1 + 1, 0, none⟩) 1 1) [⟨t.id, nm, t.key, t.nx, none, 0, []⟩] from HO.out)
    have hC9 := Lib.hid (show OwnC wc (w0.heap.size + 1) (.slice none 0 0) [] from OwnR.nil _ _ _ _ _)
    go_loopw [6] (fun i wr => ∃ (n : Nat) (A1 : Option Addr) (k1 : Nat) (m : List Cb), n ≤ t.cols.length ∧ i = .int .i64 n ∧ m.length ≤ n ∧ Hid (OwnTb wr w0.heap.size (.slice (some ⟨w.heap.size + 1 + 1 + 1, 0, none⟩) 1 1) [⟨t.id, nm, t.key, t.nx, A1, k1, m⟩]) ∧ Hid (OwnC wr (w0.heap.size + 1) (.slice A1 m.length k1) m) ∧ Hid (m = (t.cols.take n).filterMap (F9 d.p)) ∧ Hid (Below w0.heap.size w0 wr)) (fun i _ => t.cols.length - (intOf i).toNat)
    case atStart => exact ⟨0, none, 0, [], by omega, rfl, by simp, hO9.out, hC9.out, by rfl, Hb1.out⟩
    case round =>
      clear hO9 hC9
      obtain ⟨n, A1, k1, m, hn, rfl, hmn, hO9, hC9, hm, Hb2⟩ := hrel
      try clear t0 t1 t2 t3 t4
      obtain ⟨t0, t1, t2, t3, t4⟩ := (HT.out.below Hb2.out (by have := Hs0.out; omega)).tab
      try clear x0 x1 x2 x3 x4 x5 x6 x7 x8 x9 x10 x11
      obtain ⟨x0, x1, x2, x3, x4, x5, x6, x7, x8, x9, x10, x11⟩ := (HX.out.below Hb2.out (by have := Hs0.out; omega)).ddl
      by_cases hlt : n < t.cols.length
      · obtain ⟨c, hc⟩ : ∃ c, t.cols[n]? = some c := ⟨t.cols[n], by simp [hlt]⟩
        have Hc := Lib.hid hc
        obtain ⟨b, off, hAe, hbB, d0, d1, d2, d3, d4, d5, d6, d7⟩ := ColsAt.get (RowAt.to HA.out Hb2.out) n c hc
        rw [hAe] at t4
        have hw0r : w0.heap.size < wr.heap.size := by have h1 : w.heap.size + 1 + 1 + 1 < wr.heap.size := (hO9.out.lt _ rfl).2; have := Heg.out; omega
        have Hw0r := Lib.hid hw0r; clear hw0r
        clear hc hAe
        have kx2 := fun o => keep_alloc x2 o
        have kx0 := fun o => keep_alloc x0 o
        have kx3 := fun o => keep_alloc x3 o
        cases he : (c.nm.toList == d.p.co.toList)
        · have HF : Hid (F9 d.p c = some c) := by show _ = _; unfold F9; rw [if_neg (by show ¬ (c.nm.toList == d.p.co.toList) = true; rw [he]; decide)]
          obtain ⟨v0, hv0, hbv0, hXc, _⟩ := box_col wr c
          have Hv0 := Lib.hid hv0
          have Hbv0 := Lib.hid hbv0
          have HXc := Lib.hid hXc
          clear hv0 hbv0 hXc
          go_upto_region 16 with fail
          rw [Hv0.out]
          clear kx0 kx2 kx3 d0 d1 d2 d3 d4 d5 d6 d7
          have HO0 := Lib.hid (hO9.out.below Hbv0.out)
          have HC0 := Lib.hid (hC9.out.below Hbv0.out)
          have Hbl : Hid (∀ x, (Value.slice A1 m.length k1).ownBlock = some x → x ≠ w.heap.size + 1 + 1 + 1) := fun x hx e => by have := (HC0.out.lt x hx).1; have := Heg.out; omega
          obtain ⟨o0, o1, o2, o3, o4⟩ := tab_one HO0.out
          obtain ⟨z0, z1, z2, z3, z4, z5, z6, z7⟩ := HXc.out.col
          go_wp2_with (at_builtin; refine wpList_append_rows Tryz.underlying29 infoC rfl (by decide) (by decide) lenC oneC rfl _ _ rfl (w0.heap.size + 1) _ m (some ⟨v0.heap.size, 0, none⟩) 1 1 [c] (World.ownsRow.alloc HC0.out _) (by simp [Act.eval]) (by simp [Act.eval]) rfl (fun h => by cases h) (rowat_new (m := 8) (f := fC) v0 c 63) (by simp; omega) (by have := Hbv0.out.size; have := Hw0r.out; simp; omega) ?_; intro v1 w5 ho5 hg5; obtain ⟨A2, k2, rfl, _, _, _⟩ := ho5.form; have hof5 : Off (fun x => (Value.slice A1 m.length k1).ownBlock = some x) v0 w5 := Off.behind (by go_grown) (Off.of_grown hg5); have HO5 := Lib.hid (OwnR.off HO0.out hof5 (fun x hx e => Hbl.out x e (by simpa [Value.ownBlock] using hx.symm))); have Hof5 := Lib.hid hof5; have HC5 := Lib.hid ho5; clear hof5 ho5 hg5; have y4 := (tab_one HO5.out).2.2.2.2; have f4 := HO5.out.frozen 4)
          have HbE : Hid (Below w0.heap.size w0 (w5.setCell ⟨w.heap.size + 1 + 1 + 1, 4, none⟩ (.slice A2 (m ++ [c]).length k2))) := bput ((bthen Hb2.out Hbv0.out).trans (Hof5.out.below (fun x _ hx => by have := (HC0.out.lt x hx).1; omega) (Nat.le_trans (Nat.le_of_lt Hw0r.out) Hbv0.out.size))) (by have := Heg.out; omega) 4 _
          have HOE : Hid (OwnTb (w5.setCell ⟨w.heap.size + 1 + 1 + 1, 4, none⟩ (.slice A2 (m ++ [c]).length k2)) w0.heap.size (.slice (some ⟨w.heap.size + 1 + 1 + 1, 0, none⟩) 1 1) [⟨t.id, nm, t.key, t.nx, A2, k2, m ++ [c]⟩]) := by
            have := HO5.out.set1 lenT (k := 0) (i := 4) (x := ⟨t.id, nm, t.key, t.nx, A1, k1, m⟩) (y := ⟨t.id, nm, t.key, t.nx, A2, k2, m ++ [c]⟩) (u := .slice A2 (m ++ [c]).length k2) rfl (by omega) rfl
            exact this
          have HCE := Lib.hid (OwnR.off HC5.out (Off.set w5 (w.heap.size + 1 + 1 + 1) 4 (.slice A2 (m ++ [c]).length k2)) (fun x hx e => by have := (HC5.out.lt x hx).1; have := Heg.out; omega))
          have HmE : Hid (m ++ [c] = (t.cols.take (n + 1)).filterMap (F9 d.p)) := by
            show _ = _
            rw [take_snocC Hc.out, List.filterMap_append, ← hm.out]
            simp [HF.out]
          have hlE : (m ++ [c]).length ≤ n + 1 := by simp; omega
          have hle : (m ++ [c]).length = m.length + 1 := by simp
          rw [hle] at HbE HOE HCE
          clear y4 f4 o0 o1 o2 o3 o4
          go_roundw
          case rel => exact ⟨n + 1, A2, k2, m ++ [c], by omega, by go_num, hlE, HOE.out, by show OwnC _ _ _ _; rw [hle]; exact HCE.out, HmE.out, HbE.out⟩
          case measure => simp [intOf]; omega
        · have heq : eqS c.nm d.p.co = true := he
          by_cases e5 : d.p.op = 5
          · have HF : Hid (F9 d.p c = none) := by show _ = _; unfold F9; rw [if_pos heq, if_pos e5]
            have q5 : (d.p.op == 5) = true := by rw [beq_iff_eq]; omega
            have q6 : (d.p.op == 6) = false := by rw [beq_eq_false_iff_ne]; omega
            have q7 : (d.p.op == 7) = false := by rw [beq_eq_false_iff_ne]; omega
            have q8 : (d.p.op == 8) = false := by rw [beq_eq_false_iff_ne]; omega
            clear e5
            have Hbv0 := Lib.hid (below_one wr (.cells #[.int .i64 c.id, .string c.nm, .int .i64 c.tk, .int .i64 c.tm, .bool c.nl, .int .i64 c.dk, .int .i64 c.dn, .string c.ds] 63))
            have HmE : Hid (m = (t.cols.take (n + 1)).filterMap (F9 d.p)) := by
              show _ = _
              rw [take_snocC Hc.out, List.filterMap_append, ← hm.out]
              simp [HF.out]
            have HO0 := Lib.hid (hO9.out.below Hbv0.out)
            have HC0 := Lib.hid (hC9.out.below Hbv0.out)
            clear heq
            go_wp2_with fail
            go_roundw
            case rel => exact ⟨n + 1, A1, k1, m, by omega, by go_num, by omega, HO0.out, HC0.out, HmE.out, bthen Hb2.out Hbv0.out⟩
            case measure => simp [intOf]; omega
          by_cases e6 : d.p.op = 6
          · obtain ⟨c2, hc2⟩ : ∃ c2 : Cb, ({ c with nm := d.p.to } : Cb) = c2 := ⟨_, rfl⟩
            have HF : Hid (F9 d.p c = some c2) := by show _ = _; unfold F9; rw [if_pos heq, if_neg e5, if_pos e6, hc2]
            have q5 : (d.p.op == 5) = false := by rw [beq_eq_false_iff_ne]; omega
            have q6 : (d.p.op == 6) = true := by rw [beq_iff_eq]; omega
            have q7 : (d.p.op == 7) = false := by rw [beq_eq_false_iff_ne]; omega
            have q8 : (d.p.op == 8) = false := by rw [beq_eq_false_iff_ne]; omega
            clear e5 e6
            obtain ⟨v0, hv0, hbv0, hXc, _⟩ := box_col wr { c with nm := d.p.to }
            dsimp only at hv0
            rw [hc2] at hXc
            have Hv0 := Lib.hid hv0
            have Hbv0 := Lib.hid hbv0
            have HXc := Lib.hid hXc
            clear hv0 hbv0 hXc hc2 heq
            go_upto_region 11 with fail
            rw [Hv0.out]
            clear kx0 kx2 kx3 d0 d1 d2 d3 d4 d5 d6 d7
            have Hb3 := Lib.hid (bthen Hb2.out Hbv0.out)
            try clear x0 x1 x2 x3 x4 x5 x6 x7 x8 x9 x10 x11
            obtain ⟨x0, x1, x2, x3, x4, x5, x6, x7, x8, x9, x10, x11⟩ := (HX.out.below Hb3.out (by have := Hs0.out; omega)).ddl
            obtain ⟨z0, z1, z2, z3, z4, z5, z6, z7⟩ := HXc.out.col
            cases hto : (c2.nm.toList == d.p.co.toList)
            all_goals
              go_upto_region 16 with fail
              have HO0 := Lib.hid (hO9.out.below Hbv0.out)
              have HC0 := Lib.hid (hC9.out.below Hbv0.out)
              have Hbl : Hid (∀ x, (Value.slice A1 m.length k1).ownBlock = some x → x ≠ w.heap.size + 1 + 1 + 1) := fun x hx e => by have := (HC0.out.lt x hx).1; have := Heg.out; omega
              obtain ⟨o0, o1, o2, o3, o4⟩ := tab_one HO0.out
              obtain ⟨z0, z1, z2, z3, z4, z5, z6, z7⟩ := HXc.out.col
              go_wp2_with (at_builtin; refine wpList_append_rows Tryz.underlying29 infoC rfl (by decide) (by decide) lenC oneC rfl _ _ rfl (w0.heap.size + 1) _ m (some ⟨v0.heap.size, 0, none⟩) 1 1 [c2] (World.ownsRow.alloc HC0.out _) (by simp [Act.eval]) (by simp [Act.eval]) rfl (fun h => by cases h) (rowat_new (m := 8) (f := fC) v0 c2 63) (by simp; omega) (by have := Hbv0.out.size; have := Hw0r.out; simp; omega) ?_; intro v1 w5 ho5 hg5; obtain ⟨A2, k2, rfl, _, _, _⟩ := ho5.form; have hof5 : Off (fun x => (Value.slice A1 m.length k1).ownBlock = some x) v0 w5 := Off.behind (by go_grown) (Off.of_grown hg5); have HO5 := Lib.hid (OwnR.off HO0.out hof5 (fun x hx e => Hbl.out x e (by simpa [Value.ownBlock] using hx.symm))); have Hof5 := Lib.hid hof5; have HC5 := Lib.hid ho5; clear hof5 ho5 hg5; have y4 := (tab_one HO5.out).2.2.2.2; have f4 := HO5.out.frozen 4)
              have HbE : Hid (Below w0.heap.size w0 (w5.setCell ⟨w.heap.size + 1 + 1 + 1, 4, none⟩ (.slice A2 (m ++ [c2]).length k2))) := bput ((bthen Hb2.out Hbv0.out).trans (Hof5.out.below (fun x _ hx => by have := (HC0.out.lt x hx).1; omega) (Nat.le_trans (Nat.le_of_lt Hw0r.out) Hbv0.out.size))) (by have := Heg.out; omega) 4 _
              have HOE : Hid (OwnTb (w5.setCell ⟨w.heap.size + 1 + 1 + 1, 4, none⟩ (.slice A2 (m ++ [c2]).length k2)) w0.heap.size (.slice (some ⟨w.heap.size + 1 + 1 + 1, 0, none⟩) 1 1) [⟨t.id, nm, t.key, t.nx, A2, k2, m ++ [c2]⟩]) := by
                have := HO5.out.set1 lenT (k := 0) (i := 4) (x := ⟨t.id, nm, t.key, t.nx, A1, k1, m⟩) (y := ⟨t.id, nm, t.key, t.nx, A2, k2, m ++ [c2]⟩) (u := .slice A2 (m ++ [c2]).length k2) rfl (by omega) rfl
                exact this
              have HCE := Lib.hid (OwnR.off HC5.out (Off.set w5 (w.heap.size + 1 + 1 + 1) 4 (.slice A2 (m ++ [c2]).length k2)) (fun x hx e => by have := (HC5.out.lt x hx).1; have := Heg.out; omega))
              have HmE : Hid (m ++ [c2] = (t.cols.take (n + 1)).filterMap (F9 d.p)) := by
                show _ = _
                rw [take_snocC Hc.out, List.filterMap_append, ← hm.out]
                simp [HF.out]
              have hlE : (m ++ [c2]).length ≤ n + 1 := by simp; omega
              have hle : (m ++ [c2]).length = m.length + 1 := by simp
              rw [hle] at HbE HOE HCE
              clear y4 f4 o0 o1 o2 o3 o4
              go_roundw
              case rel => exact ⟨n + 1, A2, k2, m ++ [c2], by omega, by go_num, hlE, HOE.out, by show OwnC _ _ _ _; rw [hle]; exact HCE.out, HmE.out, HbE.out⟩
              case measure => simp [intOf]; omega
          by_cases e7 : d.p.op = 7
          · obtain ⟨hcp, hcw⟩ := Hcast.out e7 c (List.mem_of_getElem? Hc.out) (eqS_iff.1 heq)
            have h64 := H64.out c (List.mem_of_getElem? Hc.out)
            obtain ⟨K1, K2⟩ := cast_ok hcp hcw h64.1 h64.2
            have HFc : Hid (F9 d.p c = some (castC d.p.tk d.p.tm c)) := by show _ = _; unfold F9; rw [if_pos heq, if_neg e5, if_neg e6, if_pos e7]
            have HCa := Lib.hid (fun w' => trcast_any c.dk c.dn c.ds d.p.tk d.p.tm w' h64.1 h64.2)
            rw [K1] at HCa
            have HK2 := Lib.hid K2
            generalize (castC d.p.tk d.p.tm c).dk = ck at HCa HK2
            generalize (castC d.p.tk d.p.tm c).dn = cn at HCa HK2
            generalize (castC d.p.tk d.p.tm c).ds = cs at HCa HK2
            rw [HK2.out] at HFc
            have q5 : (d.p.op == 5) = false := by rw [beq_eq_false_iff_ne]; omega
            have q6 : (d.p.op == 6) = false := by rw [beq_eq_false_iff_ne]; omega
            have q7 : (d.p.op == 7) = true := by rw [beq_iff_eq]; omega
            have q8 : (d.p.op == 8) = false := by rw [beq_eq_false_iff_ne]; omega
            clear e5 e6 e7
            have kx5 := fun o => keep_alloc x5 o
            have kx6 := fun o => keep_alloc x6 o
            obtain ⟨v0, hv0, hbv0, hXc, _⟩ := box_colO wr c
            have Hv0 := Lib.hid hv0
            have Hbv0 := Lib.hid hbv0
            have HXc := Lib.hid hXc
            clear hv0 hbv0 hXc heq hcp hcw K1 K2 h64
            go_wp2_with fail
            rw [Hv0.out]
            refine (HCa.out v0).mono ?_
            rintro e v1 ⟨rfl, hb⟩
            have Hbv1 := Lib.hid (bthen Hbv0.out hb)
            have HX1 := Lib.hid (HXc.out.below hb)
            clear hb
            have Hb3 := Lib.hid (bthen Hb2.out Hbv1.out)
            try clear x0 x1 x2 x3 x4 x5 x6 x7 x8 x9 x10 x11
            obtain ⟨x0, x1, x2, x3, x4, x5, x6, x7, x8, x9, x10, x11⟩ := (HX.out.below Hb3.out (by have := Hs0.out; omega)).ddl
            obtain ⟨z0, z1, z2, z3, z4, z5, z6, z7⟩ := one_cells HX1.out
            have g5 := HX1.out.frozen 5
            have g6 := HX1.out.frozen 6
            have g7 := HX1.out.frozen 7
            have g2 := HX1.out.frozen 2
            have g3 := HX1.out.frozen 3
            clear kx0 kx2 kx3 kx5 kx6
            have hn1 : w.heap.size + 1 ≠ wr.heap.size := by have := Hw0r.out; have := Heg.out; omega
            have hn2 : wr.heap.size ≠ w.heap.size + 1 := fun e => hn1 e.symm
            obtain ⟨W, hW⟩ : ∃ W, ((((v1.setCell ⟨wr.heap.size, 5, none⟩ (.int .i64 ck)).setCell ⟨wr.heap.size, 6, none⟩ (.int .i64 cn)).setCell ⟨wr.heap.size, 7, none⟩ (.string cs)).setCell ⟨wr.heap.size, 2, none⟩ (.int .i64 d.p.tk)).setCell ⟨wr.heap.size, 3, none⟩ (.int .i64 d.p.tm) = W := ⟨_, rfl⟩
            have HWc : Hid (OwnC W wr.heap.size (.slice (some ⟨wr.heap.size, 0, none⟩) 1 1) [{ c with tk := d.p.tk, tm := d.p.tm, dk := ck, dn := cn, ds := cs }]) := by
              have h1 := OwnR.setD (l := [c]) (j := 0) (c := c) HX1.out rfl ck cn cs
              have h2 := OwnR.setT (l := [{ c with dk := ck, dn := cn, ds := cs }]) (j := 0) (c := { c with dk := ck, dn := cn, ds := cs }) h1 rfl d.p.tk d.p.tm
              rw [← hW]
              exact h2
            have HbW1 : Hid (Below wr.heap.size wr W) := by
              rw [← hW]
              exact bput (bput (bput (bput (bput Hbv1.out (Nat.le_refl _) 5 _) (Nat.le_refl _) 6 _) (Nat.le_refl _) 7 _) (Nat.le_refl _) 2 _) (Nat.le_refl _) 3 _
            have HW := Lib.hid hW; clear hW
            have HF := HFc; clear HFc
            obtain ⟨c2, hc2⟩ : ∃ c2 : Cb, ({ c with tk := d.p.tk, tm := d.p.tm, dk := ck, dn := cn, ds := cs } : Cb) = c2 := ⟨_, rfl⟩
            rw [hc2] at HF HWc
            have HnmE : Hid (c2.nm = c.nm) := by show _ = _; rw [← hc2]
            clear hc2 HXc
            have HXc : Hid (BlkN W wr.heap.size (fC c2)) := by
              obtain ⟨y0, y1, y2, y3, y4, y5, y6, y7⟩ := one_cells HWc.out
              intro i v hv
              match i, hv with
              | 0, hv => simp [fC] at hv; subst hv; exact y0
              | 1, hv => simp [fC] at hv; subst hv; exact y1
              | 2, hv => simp [fC] at hv; subst hv; exact y2
              | 3, hv => simp [fC] at hv; subst hv; exact y3
              | 4, hv => simp [fC] at hv; subst hv; exact y4
              | 5, hv => simp [fC] at hv; subst hv; exact y5
              | 6, hv => simp [fC] at hv; subst hv; exact y6
              | 7, hv => simp [fC] at hv; subst hv; exact y7
              | i + 8, hv => simp [fC] at hv
            go_upto_region 14 with fail
            rw [HW.out]
            clear z0 z1 z2 z3 z4 z5 z6 z7 g2 g3 g5 g6 g7 Hb3 d0 d1 d2 d3 d4 d5 d6 d7 t0 t1 t2 t3 t4
            have Hb3 := Lib.hid (bthen Hb2.out HbW1.out)
            try clear x0 x1 x2 x3 x4 x5 x6 x7 x8 x9 x10 x11
            obtain ⟨x0, x1, x2, x3, x4, x5, x6, x7, x8, x9, x10, x11⟩ := (HX.out.below Hb3.out (by have := Hs0.out; omega)).ddl
            obtain ⟨z0, z1, z2, z3, z4, z5, z6, z7⟩ := HXc.out.col
            rw [HnmE.out] at z1
            go_upto_region 16 with fail
            clear z0 z1 z2 z3 z4 z5 z6 z7
            have HO0 := Lib.hid (hO9.out.below HbW1.out)
            have HC0 := Lib.hid (hC9.out.below HbW1.out)
            have Hbl : Hid (∀ x, (Value.slice A1 m.length k1).ownBlock = some x → x ≠ w.heap.size + 1 + 1 + 1) := fun x hx e => by have := (HC0.out.lt x hx).1; have := Heg.out; omega
            obtain ⟨o0, o1, o2, o3, o4⟩ := tab_one HO0.out
            obtain ⟨z0, z1, z2, z3, z4, z5, z6, z7⟩ := HXc.out.col
            go_wp2_with (at_builtin; refine wpList_append_rows Tryz.underlying29 infoC rfl (by decide) (by decide) lenC oneC rfl _ _ rfl (w0.heap.size + 1) _ m (some ⟨W.heap.size, 0, none⟩) 1 1 [c2] (World.ownsRow.alloc HC0.out _) (by simp [Act.eval]) (by simp [Act.eval]) rfl (fun h => by cases h) (rowat_new (m := 8) (f := fC) W c2 63) (by simp; omega) (by have := HbW1.out.size; have := Hw0r.out; simp; omega) ?_; intro v1 w5 ho5 hg5; obtain ⟨A2, k2, rfl, _, _, _⟩ := ho5.form; have hof5 : Off (fun x => (Value.slice A1 m.length k1).ownBlock = some x) W w5 := Off.behind (by go_grown) (Off.of_grown hg5); have HO5 := Lib.hid (OwnR.off HO0.out hof5 (fun x hx e => Hbl.out x e (by simpa [Value.ownBlock] using hx.symm))); have Hof5 := Lib.hid hof5; have HC5 := Lib.hid ho5; clear hof5 ho5 hg5; have y4 := (tab_one HO5.out).2.2.2.2; have f4 := HO5.out.frozen 4)
            have HbE : Hid (Below w0.heap.size w0 (w5.setCell ⟨w.heap.size + 1 + 1 + 1, 4, none⟩ (.slice A2 (m ++ [c2]).length k2))) := bput ((bthen Hb2.out HbW1.out).trans (Hof5.out.below (fun x _ hx => by have := (HC0.out.lt x hx).1; omega) (Nat.le_trans (Nat.le_of_lt Hw0r.out) HbW1.out.size))) (by have := Heg.out; omega) 4 _
            have HOE : Hid (OwnTb (w5.setCell ⟨w.heap.size + 1 + 1 + 1, 4, none⟩ (.slice A2 (m ++ [c2]).length k2)) w0.heap.size (.slice (some ⟨w.heap.size + 1 + 1 + 1, 0, none⟩) 1 1) [⟨t.id, nm, t.key, t.nx, A2, k2, m ++ [c2]⟩]) := by
              have := HO5.out.set1 lenT (k := 0) (i := 4) (x := ⟨t.id, nm, t.key, t.nx, A1, k1, m⟩) (y := ⟨t.id, nm, t.key, t.nx, A2, k2, m ++ [c2]⟩) (u := .slice A2 (m ++ [c2]).length k2) rfl (by omega) rfl
              exact this
            have HCE := Lib.hid (OwnR.off HC5.out (Off.set w5 (w.heap.size + 1 + 1 + 1) 4 (.slice A2 (m ++ [c2]).length k2)) (fun x hx e => by have := (HC5.out.lt x hx).1; have := Heg.out; omega))
            have HmE : Hid (m ++ [c2] = (t.cols.take (n + 1)).filterMap (F9 d.p)) := by
              show _ = _
              rw [take_snocC Hc.out, List.filterMap_append, ← hm.out]
              simp [HF.out]
            have hlE : (m ++ [c2]).length ≤ n + 1 := by simp; omega
            have hle : (m ++ [c2]).length = m.length + 1 := by simp
            rw [hle] at HbE HOE HCE
            clear y4 f4 o0 o1 o2 o3 o4
            go_roundw
            case rel => exact ⟨n + 1, A2, k2, m ++ [c2], by omega, by go_num, hlE, HOE.out, by show OwnC _ _ _ _; rw [hle]; exact HCE.out, HmE.out, HbE.out⟩
            case measure => simp [intOf]; omega
          by_cases e8 : d.p.op = 8
          · obtain ⟨c2, hc2⟩ : ∃ c2 : Cb, ({ c with dk := d.p.dk, dn := d.p.dn, ds := d.p.ds } : Cb) = c2 := ⟨_, rfl⟩
            have HF : Hid (F9 d.p c = some c2) := by show _ = _; unfold F9; rw [if_pos heq, if_neg e5, if_neg e6, if_neg e7, if_pos e8, hc2]
            have q5 : (d.p.op == 5) = false := by rw [beq_eq_false_iff_ne]; omega
            have q6 : (d.p.op == 6) = false := by rw [beq_eq_false_iff_ne]; omega
            have q7 : (d.p.op == 7) = false := by rw [beq_eq_false_iff_ne]; omega
            have q8 : (d.p.op == 8) = true := by rw [beq_iff_eq]; omega
            clear e5 e6 e7 e8
            have kx8 := fun o => keep_alloc x8 o
            have kx9 := fun o => keep_alloc x9 o
            have kx10 := fun o => keep_alloc x10 o
            obtain ⟨v0, hv0, hbv0, hXc, _⟩ := box_col wr { c with dk := d.p.dk, dn := d.p.dn, ds := d.p.ds }
            dsimp only at hv0
            rw [hc2] at hXc
            have Hv0 := Lib.hid hv0
            have Hbv0 := Lib.hid hbv0
            have HXc := Lib.hid hXc
            clear hv0 hbv0 hXc hc2 heq
            go_upto_region 16 with fail
            rw [Hv0.out]
            clear kx0 kx2 kx3 kx8 kx9 kx10 d0 d1 d2 d3 d4 d5 d6 d7
            have HO0 := Lib.hid (hO9.out.below Hbv0.out)
            have HC0 := Lib.hid (hC9.out.below Hbv0.out)
            have Hbl : Hid (∀ x, (Value.slice A1 m.length k1).ownBlock = some x → x ≠ w.heap.size + 1 + 1 + 1) := fun x hx e => by have := (HC0.out.lt x hx).1; have := Heg.out; omega
            obtain ⟨o0, o1, o2, o3, o4⟩ := tab_one HO0.out
            obtain ⟨z0, z1, z2, z3, z4, z5, z6, z7⟩ := HXc.out.col
            go_wp2_with (at_builtin; refine wpList_append_rows Tryz.underlying29 infoC rfl (by decide) (by decide) lenC oneC rfl _ _ rfl (w0.heap.size + 1) _ m (some ⟨v0.heap.size, 0, none⟩) 1 1 [c2] (World.ownsRow.alloc HC0.out _) (by simp [Act.eval]) (by simp [Act.eval]) rfl (fun h => by cases h) (rowat_new (m := 8) (f := fC) v0 c2 63) (by simp; omega) (by have := Hbv0.out.size; have := Hw0r.out; simp; omega) ?_; intro v1 w5 ho5 hg5; obtain ⟨A2, k2, rfl, _, _, _⟩ := ho5.form; have hof5 : Off (fun x => (Value.slice A1 m.length k1).ownBlock = some x) v0 w5 := Off.behind (by go_grown) (Off.of_grown hg5); have HO5 := Lib.hid (OwnR.off HO0.out hof5 (fun x hx e => Hbl.out x e (by simpa [Value.ownBlock] using hx.symm))); have Hof5 := Lib.hid hof5; have HC5 := Lib.hid ho5; clear hof5 ho5 hg5; have y4 := (tab_one HO5.out).2.2.2.2; have f4 := HO5.out.frozen 4)
            have HbE : Hid (Below w0.heap.size w0 (w5.setCell ⟨w.heap.size + 1 + 1 + 1, 4, none⟩ (.slice A2 (m ++ [c2]).length k2))) := bput ((bthen Hb2.out Hbv0.out).trans (Hof5.out.below (fun x _ hx => by have := (HC0.out.lt x hx).1; omega) (Nat.le_trans (Nat.le_of_lt Hw0r.out) Hbv0.out.size))) (by have := Heg.out; omega) 4 _
            have HOE : Hid (OwnTb (w5.setCell ⟨w.heap.size + 1 + 1 + 1, 4, none⟩ (.slice A2 (m ++ [c2]).length k2)) w0.heap.size (.slice (some ⟨w.heap.size + 1 + 1 + 1, 0, none⟩) 1 1) [⟨t.id, nm, t.key, t.nx, A2, k2, m ++ [c2]⟩]) := by
              have := HO5.out.set1 lenT (k := 0) (i := 4) (x := ⟨t.id, nm, t.key, t.nx, A1, k1, m⟩) (y := ⟨t.id, nm, t.key, t.nx, A2, k2, m ++ [c2]⟩) (u := .slice A2 (m ++ [c2]).length k2) rfl (by omega) rfl
              exact this
            have HCE := Lib.hid (OwnR.off HC5.out (Off.set w5 (w.heap.size + 1 + 1 + 1) 4 (.slice A2 (m ++ [c2]).length k2)) (fun x hx e => by have := (HC5.out.lt x hx).1; have := Heg.out; omega))
            have HmE : Hid (m ++ [c2] = (t.cols.take (n + 1)).filterMap (F9 d.p)) := by
              show _ = _
              rw [take_snocC Hc.out, List.filterMap_append, ← hm.out]
              simp [HF.out]
            have hlE : (m ++ [c2]).length ≤ n + 1 := by simp; omega
            have hle : (m ++ [c2]).length = m.length + 1 := by simp
            rw [hle] at HbE HOE HCE
            clear y4 f4 o0 o1 o2 o3 o4
            go_roundw
            case rel => exact ⟨n + 1, A2, k2, m ++ [c2], by omega, by go_num, hlE, HOE.out, by show OwnC _ _ _ _; rw [hle]; exact HCE.out, HmE.out, HbE.out⟩
            case measure => simp [intOf]; omega
          · have HF : Hid (F9 d.p c = some c) := by show _ = _; unfold F9; rw [if_pos heq, if_neg e5, if_neg e6, if_neg e7, if_neg e8]
            have q5 : (d.p.op == 5) = false := by rw [beq_eq_false_iff_ne]; omega
            have q6 : (d.p.op == 6) = false := by rw [beq_eq_false_iff_ne]; omega
            have q7 : (d.p.op == 7) = false := by rw [beq_eq_false_iff_ne]; omega
            have q8 : (d.p.op == 8) = false := by rw [beq_eq_false_iff_ne]; omega
            clear e5 e6 e7 e8
            obtain ⟨v0, hv0, hbv0, hXc, _⟩ := box_col wr c
            have Hv0 := Lib.hid hv0
            have Hbv0 := Lib.hid hbv0
            have HXc := Lib.hid hXc
            clear hv0 hbv0 hXc heq
            go_upto_region 16 with fail
            rw [Hv0.out]
            clear kx0 kx2 kx3 d0 d1 d2 d3 d4 d5 d6 d7
            have HO0 := Lib.hid (hO9.out.below Hbv0.out)
            have HC0 := Lib.hid (hC9.out.below Hbv0.out)
            have Hbl : Hid (∀ x, (Value.slice A1 m.length k1).ownBlock = some x → x ≠ w.heap.size + 1 + 1 + 1) := fun x hx e => by have := (HC0.out.lt x hx).1; have := Heg.out; omega
            obtain ⟨o0, o1, o2, o3, o4⟩ := tab_one HO0.out
            obtain ⟨z0, z1, z2, z3, z4, z5, z6, z7⟩ := HXc.out.col
            go_wp2_with (at_builtin; refine wpList_append_rows Tryz.underlying29 infoC rfl (by decide) (by decide) lenC oneC rfl _ _ rfl (w0.heap.size + 1) _ m (some ⟨v0.heap.size, 0, none⟩) 1 1 [c] (World.ownsRow.alloc HC0.out _) (by simp [Act.eval]) (by simp [Act.eval]) rfl (fun h => by cases h) (rowat_new (m := 8) (f := fC) v0 c 63) (by simp; omega) (by have := Hbv0.out.size; have := Hw0r.out; simp; omega) ?_; intro v1 w5 ho5 hg5; obtain ⟨A2, k2, rfl, _, _, _⟩ := ho5.form; have hof5 : Off (fun x => (Value.slice A1 m.length k1).ownBlock = some x) v0 w5 := Off.behind (by go_grown) (Off.of_grown hg5); have HO5 := Lib.hid (OwnR.off HO0.out hof5 (fun x hx e => Hbl.out x e (by simpa [Value.ownBlock] using hx.symm))); have Hof5 := Lib.hid hof5; have HC5 := Lib.hid ho5; clear hof5 ho5 hg5; have y4 := (tab_one HO5.out).2.2.2.2; have f4 := HO5.out.frozen 4)
            have HbE : Hid (Below w0.heap.size w0 (w5.setCell ⟨w.heap.size + 1 + 1 + 1, 4, none⟩ (.slice A2 (m ++ [c]).length k2))) := bput ((bthen Hb2.out Hbv0.out).trans (Hof5.out.below (fun x _ hx => by have := (HC0.out.lt x hx).1; omega) (Nat.le_trans (Nat.le_of_lt Hw0r.out) Hbv0.out.size))) (by have := Heg.out; omega) 4 _
            have HOE : Hid (OwnTb (w5.setCell ⟨w.heap.size + 1 + 1 + 1, 4, none⟩ (.slice A2 (m ++ [c]).length k2)) w0.heap.size (.slice (some ⟨w.heap.size + 1 + 1 + 1, 0, none⟩) 1 1) [⟨t.id, nm, t.key, t.nx, A2, k2, m ++ [c]⟩]) := by
              have := HO5.out.set1 lenT (k := 0) (i := 4) (x := ⟨t.id, nm, t.key, t.nx, A1, k1, m⟩) (y := ⟨t.id, nm, t.key, t.nx, A2, k2, m ++ [c]⟩) (u := .slice A2 (m ++ [c]).length k2) rfl (by omega) rfl
              exact this
            have HCE := Lib.hid (OwnR.off HC5.out (Off.set w5 (w.heap.size + 1 + 1 + 1) 4 (.slice A2 (m ++ [c]).length k2)) (fun x hx e => by have := (HC5.out.lt x hx).1; have := Heg.out; omega))
            have HmE : Hid (m ++ [c] = (t.cols.take (n + 1)).filterMap (F9 d.p)) := by
              show _ = _
              rw [take_snocC Hc.out, List.filterMap_append, ← hm.out]
              simp [HF.out]
            have hlE : (m ++ [c]).length ≤ n + 1 := by simp; omega
            have hle : (m ++ [c]).length = m.length + 1 := by simp
            rw [hle] at HbE HOE HCE
            clear y4 f4 o0 o1 o2 o3 o4
            go_roundw
            case rel => exact ⟨n + 1, A2, k2, m ++ [c], by omega, by go_num, hlE, HOE.out, by show OwnC _ _ _ _; rw [hle]; exact HCE.out, HmE.out, HbE.out⟩
            case measure => simp [intOf]; omega
      · have hmF : m = t.cols.filterMap (F9 d.p) := by rw [hm.out, List.take_of_length_le (by omega)]
        have HmF := Lib.hid hmF; clear hmF
        have Hw0r' : Hid (w0.heap.size < wr.heap.size) := by have h1 : w.heap.size + 1 + 1 + 1 < wr.heap.size := (hO9.out.lt _ rfl).2; show _ < _; have := Heg.out; omega
        have Hres : Hid (wr.heap[w.heap.size + 1 + 1]? = some (.cells #[.int .i64 0, .string ⟨#[]⟩, .int .i64 0, .int .i64 0, .slice none 0 0] 51 (0, 0))) := (Hb2.out.block (w.heap.size + 1 + 1) (by have := Hs0.out; omega)).trans HR.out
        obtain ⟨o0, o1, o2, o3, o4⟩ := tab_one hO9.out
        by_cases e4 : d.p.op = 4
        · have q4 : (d.p.op == 4) = true := by rw [beq_iff_eq]; exact e4
          have E4 := Lib.hid e4; clear e4
          have HO0 := Lib.hid hO9.out
          have HC0 := Lib.hid hC9.out
          have Hbl : Hid (∀ x, (Value.slice A1 m.length k1).ownBlock = some x → x ≠ w.heap.size + 1 + 1 + 1 ∧ w.heap.size + 1 + 1 + 1 < x) := fun x hx => by have := (HC0.out.lt x hx).1; have := Heg.out; omega
          have hnx0 := hnx.1
          have hnx1 := hnx.2
          go_upto_region 19 with (at_builtin; refine wpList_append_rows Tryz.underlying29 infoC rfl (by decide) (by decide) lenC oneC rfl _ _ rfl (w0.heap.size + 1) _ m (some ⟨wr.heap.size, 0, none⟩) 1 1 [⟨t.nx, d.p.co, d.p.tk, d.p.tm, d.p.nl, d.p.dk, d.p.dn, d.p.ds⟩] (World.ownsRow.alloc HC0.out _) (by simp [Act.eval]) (by simp [Act.eval]) rfl (fun h => by cases h) (rowat_new (m := 8) (f := fC) wr ⟨t.nx, d.p.co, d.p.tk, d.p.tm, d.p.nl, d.p.dk, d.p.dn, d.p.ds⟩ 63) (by simp; omega) (by have := Hw0r'.out; simp; omega) ?_; intro v1 w5 ho5 hg5; obtain ⟨A2, k2, rfl, _, _, _⟩ := ho5.form; have hof5 : Off (fun x => (Value.slice A1 m.length k1).ownBlock = some x) wr w5 := Off.behind (by go_grown) (Off.of_grown hg5); have HO5 := Lib.hid (OwnR.off HO0.out hof5 (fun x hx e => (Hbl.out x e).1 (by simpa [Value.ownBlock] using hx.symm))); have Hof5 := Lib.hid hof5; have HC5 := Lib.hid ho5; clear hof5 ho5 hg5; have y4 := (tab_one HO5.out).2.2.2.2; have f4 := HO5.out.frozen 4)
          obtain ⟨c2, hc2⟩ : ∃ c2 : Cb, newC t.p d.p = c2 := ⟨_, rfl⟩
          have hc2' : (⟨t.nx, d.p.co, d.p.tk, d.p.tm, d.p.nl, d.p.dk, d.p.dn, d.p.ds⟩ : Cb) = c2 := hc2
          rw [hc2'] at HC5
          have hle : (m ++ [c2]).length = m.length + 1 := by simp
          obtain ⟨W1, hW1⟩ : ∃ W1, w5.setCell ⟨w.heap.size + 1 + 1 + 1, 4, none⟩ (.slice A2 (m.length + 1) k2) = W1 := ⟨_, rfl⟩
          have HO1 : Hid (OwnTb W1 w0.heap.size (.slice (some ⟨w.heap.size + 1 + 1 + 1, 0, none⟩) 1 1) [⟨t.id, nm, t.key, t.nx, A2, k2, m ++ [c2]⟩]) := by
            have := HO5.out.set1 lenT (k := 0) (i := 4) (x := ⟨t.id, nm, t.key, t.nx, A1, k1, m⟩) (y := ⟨t.id, nm, t.key, t.nx, A2, k2, m ++ [c2]⟩) (u := .slice A2 (m ++ [c2]).length k2) rfl (by omega) rfl
            rw [hle] at this
            rw [← hW1]; exact this
          have HC1 : Hid (OwnC W1 (w0.heap.size + 1) (.slice A2 (m ++ [c2]).length k2) (m ++ [c2])) := by
            rw [← hW1]
            exact OwnR.off HC5.out (Off.set w5 (w.heap.size + 1 + 1 + 1) 4 (.slice A2 (m.length + 1) k2)) (fun x hx e => by have := (HC5.out.lt x hx).1; have := Heg.out; omega)
          have HoW : Hid (Off (fun x => w.heap.size + 1 + 1 + 1 ≤ x) wr W1) := by
            rw [← hW1]
            exact (Hof5.out.mono fun x _ hx => Nat.le_of_lt (Hbl.out x hx).2).trans ((Off.set w5 (w.heap.size + 1 + 1 + 1) 4 _).mono fun x _ e => by omega)
          have HW1 := Lib.hid hW1
          clear hW1 y4 f4 o0 o1 o2 o3 o4
          rw [HW1.out]
          have T3 : W1.cell? ⟨w.heap.size, 3, none⟩ = some (.int .i64 t.nx) := HoW.out.keep t3 (by show ¬ w.heap.size + 1 + 1 + 1 ≤ w.heap.size; omega)
          obtain ⟨o0, o1, o2, o3, o4⟩ := tab_one HO1.out
          have f3 := HO1.out.frozen 3
          go_upto_region 20 with fail
          obtain ⟨W2, hW2⟩ : ∃ W2, W1.setCell ⟨w.heap.size + 1 + 1 + 1, 3, none⟩ (.int .i64 (t.nx + 1)) = W2 := ⟨_, rfl⟩
          have HO2 : Hid (OwnTb W2 w0.heap.size (.slice (some ⟨w.heap.size + 1 + 1 + 1, 0, none⟩) 1 1) [⟨t.id, nm, t.key, t.nx + 1, A2, k2, m ++ [c2]⟩]) := by
            have := HO1.out.set1 lenT (k := 0) (i := 3) (x := ⟨t.id, nm, t.key, t.nx, A2, k2, m ++ [c2]⟩) (y := ⟨t.id, nm, t.key, t.nx + 1, A2, k2, m ++ [c2]⟩) (u := .int .i64 (t.nx + 1)) rfl (by omega) rfl
            rw [← hW2]; exact this
          have HC2 : Hid (OwnC W2 (w0.heap.size + 1) (.slice A2 (m ++ [c2]).length k2) (m ++ [c2])) := by
            rw [← hW2]
            exact OwnR.off HC1.out (Off.set W1 (w.heap.size + 1 + 1 + 1) 3 (.int .i64 (t.nx + 1))) (fun x hx e => by have := (HC1.out.lt x hx).1; have := Heg.out; omega)
          have HoW2 : Hid (Off (fun x => w.heap.size + 1 + 1 + 1 ≤ x) wr W2) := by
            rw [← hW2]
            exact HoW.out.trans ((Off.set W1 (w.heap.size + 1 + 1 + 1) 3 _).mono fun x _ e => by omega)
          have HW2 := Lib.hid hW2
          clear hW2 o0 o1 o2 o3 o4 f3 T3
          rw [HW2.out]
          have Hres2 : Hid (W2.heap[w.heap.size + 1 + 1]? = some (.cells #[.int .i64 0, .string ⟨#[]⟩, .int .i64 0, .int .i64 0, .slice none 0 0] 51 (0, 0))) := (HoW2.out.block _ (Array.getElem?_eq_some_iff.1 Hres.out).1 (by omega)).trans Hres.out
          have r0 : W2.cell? ⟨w.heap.size + 1 + 1, 0, none⟩ = some (.int .i64 0) := by rw [cell_of_row W2 _ 0 _ _ (0, 0) Hres2.out]; rfl
          have g0 : W2.frozen? ⟨w.heap.size + 1 + 1, 0, none⟩ = false := frozen_of_row W2 _ 0 _ _ Hres2.out
          have r1 : W2.cell? ⟨w.heap.size + 1 + 1, 1, none⟩ = some (.string ⟨#[]⟩) := by rw [cell_of_row W2 _ 1 _ _ (0, 0) Hres2.out]; rfl
          have g1 : W2.frozen? ⟨w.heap.size + 1 + 1, 1, none⟩ = false := frozen_of_row W2 _ 1 _ _ Hres2.out
          have r2 : W2.cell? ⟨w.heap.size + 1 + 1, 2, none⟩ = some (.int .i64 0) := by rw [cell_of_row W2 _ 2 _ _ (0, 0) Hres2.out]; rfl
          have g2 : W2.frozen? ⟨w.heap.size + 1 + 1, 2, none⟩ = false := frozen_of_row W2 _ 2 _ _ Hres2.out
          have r3 : W2.cell? ⟨w.heap.size + 1 + 1, 3, none⟩ = some (.int .i64 0) := by rw [cell_of_row W2 _ 3 _ _ (0, 0) Hres2.out]; rfl
          have g3 : W2.frozen? ⟨w.heap.size + 1 + 1, 3, none⟩ = false := frozen_of_row W2 _ 3 _ _ Hres2.out
          have r4 : W2.cell? ⟨w.heap.size + 1 + 1, 4, none⟩ = some (.slice none 0 0) := by rw [cell_of_row W2 _ 4 _ _ (0, 0) Hres2.out]; rfl
          have g4 : W2.frozen? ⟨w.heap.size + 1 + 1, 4, none⟩ = false := frozen_of_row W2 _ 4 _ _ Hres2.out
          obtain ⟨o0, o1, o2, o3, o4⟩ := tab_one HO2.out
          have HBk := Lib.hid (put_tab ⟨t.id, nm, t.key, t.nx + 1, A2, k2, m ++ [c2]⟩ Hres2.out rfl)
          have HoE := Lib.hid (off_set5 W2 (w.heap.size + 1 + 1) (.int .i64 t.id) (.string nm) (.int .i64 t.key) (.int .i64 (t.nx + 1)) (.slice A2 (m ++ [c2]).length k2))
          have HCE := Lib.hid (HC2.out.off HoE.out (fun x hx e => by have := (HC2.out.lt x hx).1; have := Heg.out; omega))
          have HbE := Lib.hid ((HoW2.out.below (B := w.heap.size) (fun x _ e => by omega) (by have := Hw0r'.out; have := Heg.out; omega)).trans (HoE.out.below (B := w.heap.size) (fun x _ e => by omega) (by have := Hw0r'.out; have := Heg.out; have := HoW2.out.size; omega)))
          have HE : Hid (TabEnd t d.p w (.returned (TV ⟨t.id, nm, t.key, t.nx + 1, A2, k2, m ++ [c2]⟩)) (set5 W2 (w.heap.size + 1 + 1) (.int .i64 t.id) (.string nm) (.int .i64 t.key) (.int .i64 (t.nx + 1)) (.slice A2 (m ++ [c2]).length k2))) := by
            refine ⟨_, rfl, ?_, HCE.out.mono (by have := Heg.out; omega), ((bthen HbW.out Hb2.out)).trans HbE.out⟩
            show (⟨t.id, nm, t.key, t.nx + 1, m ++ [c2]⟩ : Tp) = _
            unfold tableD
            rw [colsD_F t.p d.p Ho.out, if_pos E4.out, if_pos E4.out, HmF.out, ← Hnm.out, hc2]
            rfl
          dsimp only at o4
          rw [hle] at o4
          simp only [hle] at HBk HE
          clear hc2 hc2'
          go_wp2_with fail
          refine bodyPost_ret (results_tb1 rfl _ _ rfl HBk.out) rfl ?_
          exact HE.out
        · have q4 : (d.p.op == 4) = false := by rw [beq_eq_false_iff_ne]; exact e4
          have E4 := Lib.hid e4; clear e4
          have r0 : wr.cell? ⟨w.heap.size + 1 + 1, 0, none⟩ = some (.int .i64 0) := by rw [cell_of_row wr _ 0 _ _ (0, 0) Hres.out]; rfl
          have g0 : wr.frozen? ⟨w.heap.size + 1 + 1, 0, none⟩ = false := frozen_of_row wr _ 0 _ _ Hres.out
          have r1 : wr.cell? ⟨w.heap.size + 1 + 1, 1, none⟩ = some (.string ⟨#[]⟩) := by rw [cell_of_row wr _ 1 _ _ (0, 0) Hres.out]; rfl
          have g1 : wr.frozen? ⟨w.heap.size + 1 + 1, 1, none⟩ = false := frozen_of_row wr _ 1 _ _ Hres.out
          have r2 : wr.cell? ⟨w.heap.size + 1 + 1, 2, none⟩ = some (.int .i64 0) := by rw [cell_of_row wr _ 2 _ _ (0, 0) Hres.out]; rfl
          have g2 : wr.frozen? ⟨w.heap.size + 1 + 1, 2, none⟩ = false := frozen_of_row wr _ 2 _ _ Hres.out
          have r3 : wr.cell? ⟨w.heap.size + 1 + 1, 3, none⟩ = some (.int .i64 0) := by rw [cell_of_row wr _ 3 _ _ (0, 0) Hres.out]; rfl
          have g3 : wr.frozen? ⟨w.heap.size + 1 + 1, 3, none⟩ = false := frozen_of_row wr _ 3 _ _ Hres.out
          have r4 : wr.cell? ⟨w.heap.size + 1 + 1, 4, none⟩ = some (.slice none 0 0) := by rw [cell_of_row wr _ 4 _ _ (0, 0) Hres.out]; rfl
          have g4 : wr.frozen? ⟨w.heap.size + 1 + 1, 4, none⟩ = false := frozen_of_row wr _ 4 _ _ Hres.out
          have HBk := Lib.hid (put_tab ⟨t.id, nm, t.key, t.nx, A1, k1, m⟩ Hres.out rfl)
          have HC0 := Lib.hid (hC9.out.off (off_set5 wr (w.heap.size + 1 + 1) (.int .i64 t.id) (.string nm) (.int .i64 t.key) (.int .i64 t.nx) (.slice A1 m.length k1)) (fun x hx e => by have := (hC9.out.lt x hx).1; have := Heg.out; omega))
          have HbE := Lib.hid ((off_set5 wr (w.heap.size + 1 + 1) (.int .i64 t.id) (.string nm) (.int .i64 t.key) (.int .i64 t.nx) (.slice A1 m.length k1)).below (B := w.heap.size) (fun x _ e => by omega) (by have := Hw0r'.out; have := Heg.out; omega))
          have HE : Hid (TabEnd t d.p w (.returned (TV ⟨t.id, nm, t.key, t.nx, A1, k1, m⟩)) (set5 wr (w.heap.size + 1 + 1) (.int .i64 t.id) (.string nm) (.int .i64 t.key) (.int .i64 t.nx) (.slice A1 m.length k1))) := by
            refine ⟨_, rfl, ?_, HC0.out.mono (by have := Heg.out; omega), ((bthen HbW.out Hb2.out)).trans HbE.out⟩
            show (⟨t.id, nm, t.key, t.nx, m⟩ : Tp) = _
            unfold tableD
            rw [colsD_F t.p d.p Ho.out, if_neg E4.out, if_neg E4.out, List.append_nil, HmF.out, ← Hnm.out]
            rfl
          go_wp2_with fail
          refine bodyPost_ret (results_tb1 rfl _ _ rfl HBk.out) rfl ?_
          exact HE.out
end Go.Proofs.YthmjgaekcghonaaGreatDoor

/-
  Contract of the document's own made of layer 9: a new table.
-/
namespace Go.Proofs.YthmjgaekcghonaaGreatDoor
open Go.RowKit

/-- the boxes of the parameter, the result and the local table -/
theorem box_dm (w : World) (u : Tb) (d : Db) : ∃ w0 w1, (w.alloc (.cells #[.int .i64 d.p.op, .string d.p.tb, .string d.p.co, .string d.p.to, .string d.p.key, .int .i64 d.p.tk, .int .i64 d.p.tm, .bool d.p.nl, .int .i64 d.p.dk, .int .i64 d.p.dn, .string d.p.ds, .slice d.A d.p.cols.length d.cap] 31)).alloc (.cells #[.int .i64 0, .string ⟨#[]⟩, .int .i64 0, .int .i64 0, .slice none 0 0] 51) = w0 ∧
    w0.alloc (.cells #[.int .i64 u.id, .string u.nm, .int .i64 u.key, .int .i64 u.nx, .slice u.A u.cols.length u.cap] 51) = w1 ∧
    Below w.heap.size w w0 ∧ BlkN w0 w.heap.size (fD d) ∧ w0.heap[w.heap.size + 1]? = some (.cells #[.int .i64 0, .string ⟨#[]⟩, .int .i64 0, .int .i64 0, .slice none 0 0] 51 (0, 0)) ∧ w0.heap.size = w.heap.size + 2 ∧
    Below w0.heap.size w0 w1 ∧ OwnTb w1 w0.heap.size (.slice (some ⟨w0.heap.size, 0, none⟩) 1 1) [u] ∧ w1.heap.size = w0.heap.size + 1 :=
  ⟨_, _, rfl, rfl, below_two w _ _, (BlkN.new w _ (fD d) _ rfl).alloc (by simp) _, by
    have := heap_alloc_new (w.alloc (.cells (fD d).toArray 31)) (.cells #[.int .i64 0, .string ⟨#[]⟩, .int .i64 0, .int .i64 0, .slice none 0 0] 51)
    have e : (w.alloc (.cells (fD d).toArray 31)).heap.size = w.heap.size + 1 := by simp
    rw [e] at this
    exact this, by simp, below_one _ _, OwnR.box 51 5 fT lenT _ u, by simp⟩
/-- how the document's made ends -/
def MadeEnd (d : Dp) (id : Int) (w : World) (e : Ending) (w' : World) : Prop := ∃ u, e = .returned (TV u) ∧ u.p = madeT d id ∧ OwnC w' w.heap.size (.slice u.A u.cols.length u.cap) u.cols ∧ Below w.heap.size w w'
/-- columns of unlike names -/
def Unlike (l : List Cb) : Prop := ∀ (i j : Nat) x y, l[i]? = some x → l[j]? = some y → i < j → x.nm ≠ y.nm
theorem key_no {l : List Cb} {n : Nat} {c : Cb} {s : ByteArray} (hc : l[n]? = some c) (h : eqS c.nm s = false) : colP (l.take (n + 1)) s = colP (l.take n) s := by
  unfold colP
  rw [take_snocC hc, List.findIdx?_append]
  simp [h]
theorem key_yes {l : List Cb} {n : Nat} {c : Cb} {s : ByteArray} (hu : Unlike l) (hc : l[n]? = some c) (h : c.nm = s) : colP (l.take (n + 1)) s = some n := by
  have h1 : colP (l.take n) s = none := find_no fun j x hj => by
    rw [List.getElem?_take] at hj
    split at hj
    · rename_i hjn
      cases he : eqS x.nm s with
      | false => rfl
      | true => exact absurd ((eqS_iff.1 he).trans h.symm) (hu j n x c hj hc hjn)
    · cases hj
  have hl : (l.take n).length = n := by rw [List.length_take]; have := (List.getElem?_eq_some_iff.1 hc).1; omega
  unfold colP at h1 ⊢
  rw [take_snocC hc, List.findIdx?_append, h1, hl]
  simp [eqS_iff.2 h]
theorem idx_snoc {l : List Cb} {n : Nat} {c : Cb} (hc : l[n]? = some c) : ((l.take (n + 1)).mapIdx fun i c => ({ c with id := (i : Int) } : Cb)) = ((l.take n).mapIdx fun i c => ({ c with id := (i : Int) } : Cb)) ++ [{ c with id := (n : Int) }] := by
  have hl : (l.take n).length = n := by rw [List.length_take]; have := (List.getElem?_eq_some_iff.1 hc).1; omega
  rw [take_snocC hc, List.mapIdx_append, hl]
  simp
set_option maxRecDepth 100000 in
set_option maxHeartbeats 6400000 in
theorem rmade_any (d : Db) (id : Int) (w : World) (hD : DdlAt w w.heap.size d) (hl : d.p.cols.length ≤ 1000000) (hu : Unlike d.p.cols) :
    Calls Tryz.prog 23 #[DV d, .int .i64 id] w fun e w' => MadeEnd d.p id w e w' := by
  obtain ⟨w0, w1, hw0, hw1, hb0, hX, hR, hs0, hb1, hO, hs1⟩ := box_dm w ⟨id, d.p.tb, 0, (d.p.cols.length : Int), none, 0, []⟩ d
  dsimp only [List.length_nil] at hw1
  have Hw0 := Lib.hid hw0
  have Hw1 := Lib.hid hw1
  have HbW := Lib.hid hb0
  have HX := Lib.hid hX
  have HR := Lib.hid hR
  have Hs0 := Lib.hid hs0
  have Hb1 := Lib.hid hb1
  have Heg : Hid (w0.heap.size = w.heap.size + 1 + 1) := hs0
  have HO : Hid (OwnTb w1 w0.heap.size (.slice (some ⟨w.heap.size + 1 + 1, 0, none⟩) 1 1) [⟨id, d.p.tb, 0, (d.p.cols.length : Int), none, 0, []⟩]) := by
    have e : (⟨w0.heap.size, 0, none⟩ : Addr) = ⟨w.heap.size + 1 + 1, 0, none⟩ := by rw [hs0]
    rw [← e]; exact hO
  have HA := Lib.hid (RowAt.to hD hb0)
  have Hu := Lib.hid hu
  clear hw0 hw1 hX hR hs0 hO hs1 hD hb0 hb1 hu
  have hC9 := Lib.hid (show OwnC w1 (w0.heap.size + 1) (.slice none 0 0) [] from OwnR.nil _ _ _ _ _)
  go_enter Tryz.func23, Tryz.ntmps23
  go_wp2_with fail
  rw [Hw0.out, Hw1.out]
  go_loopw [6] (fun i wr => ∃ (n : Nat) (A1 : Option Addr) (k1 : Nat) (m : List Cb) (kk : Int), n ≤ d.p.cols.length ∧ i = .int .i64 n ∧ m.length ≤ n ∧ Hid (OwnTb wr w0.heap.size (.slice (some ⟨w.heap.size + 1 + 1, 0, none⟩) 1 1) [⟨id, d.p.tb, kk, (d.p.cols.length : Int), A1, k1, m⟩]) ∧ Hid (OwnC wr (w0.heap.size + 1) (.slice A1 m.length k1) m) ∧ Hid (m = (d.p.cols.take n).mapIdx fun i c => ({ c with id := (i : Int) } : Cb)) ∧ Hid (kk = (((colP (d.p.cols.take n) d.p.key).getD 0 : Nat) : Int)) ∧ Hid (Below w0.heap.size w0 wr)) (fun i _ => d.p.cols.length - (intOf i).toNat)
  case atStart => exact ⟨0, none, 0, [], 0, by omega, rfl, by simp, HO.out, hC9.out, by rfl, by rfl, Hb1.out⟩
  case round =>
    clear hC9
    obtain ⟨n, A1, k1, m, kk, hn, rfl, hmn, hO9, hC9, hm, hkk, Hb2⟩ := hrel
    try clear x0 x1 x2 x3 x4 x5 x6 x7 x8 x9 x10 x11
    obtain ⟨x0, x1, x2, x3, x4, x5, x6, x7, x8, x9, x10, x11⟩ := (HX.out.below Hb2.out (by have := Hs0.out; omega)).ddl
    have Hw0r : Hid (w0.heap.size < wr.heap.size) := by have h1 : w.heap.size + 1 + 1 < wr.heap.size := (hO9.out.lt _ rfl).2; show _ < _; have := Heg.out; omega
    by_cases hlt : n < d.p.cols.length
    · obtain ⟨c, hc⟩ : ∃ c, d.p.cols[n]? = some c := ⟨d.p.cols[n], by simp [hlt]⟩
      have Hc := Lib.hid hc
      obtain ⟨b, off, hAe, hbB, d0, d1, d2, d3, d4, d5, d6, d7⟩ := ColsAt.get (RowAt.to HA.out Hb2.out) n c hc
      rw [hAe] at x11
      obtain ⟨c2, hc2⟩ : ∃ c2 : Cb, ({ c with id := (n : Int) } : Cb) = c2 := ⟨_, rfl⟩
      have Hnm2 : Hid (c2.nm = c.nm) := by show _ = _; rw [← hc2]
      obtain ⟨v0, hv0, hbv0, hXc, _⟩ := box_col wr { c with id := (n : Int) }
      dsimp only at hv0
      rw [hc2] at hXc
      have Hc2 := Lib.hid hc2
      have Hv0 := Lib.hid hv0
      have Hbv0 := Lib.hid hbv0
      have HXc := Lib.hid hXc
      have HO0 := Lib.hid (hO9.out.below hbv0)
      have HC0 := Lib.hid (hC9.out.below hbv0)
      have Hb3 := Lib.hid (bthen Hb2.out hbv0)
      clear hc hAe hv0 hbv0 hXc hc2
      go_upto_region 7 with fail
      rw [Hv0.out]
      clear d0 d1 d2 d3 d4 d5 d6 d7
      try clear x0 x1 x2 x3 x4 x5 x6 x7 x8 x9 x10 x11
      obtain ⟨x0, x1, x2, x3, x4, x5, x6, x7, x8, x9, x10, x11⟩ := (HX.out.below Hb3.out (by have := Hs0.out; omega)).ddl
      obtain ⟨z0, z1, z2, z3, z4, z5, z6, z7⟩ := HXc.out.col
      rw [Hnm2.out] at z1
      cases he : (c.nm.toList == d.p.key.toList)
      · have HkE : Hid (kk = (((colP (d.p.cols.take (n + 1)) d.p.key).getD 0 : Nat) : Int)) := by show _ = _; rw [key_no Hc.out he, hkk.out]
        go_upto_region 9 with fail
        clear z0 z1 z2 z3 z4 z5 z6 z7
        obtain ⟨o0, o1, o2, o3, o4⟩ := tab_one HO0.out
        obtain ⟨z0, z1, z2, z3, z4, z5, z6, z7⟩ := HXc.out.col
        have Hbl : Hid (∀ x, (Value.slice A1 m.length k1).ownBlock = some x → x ≠ w.heap.size + 1 + 1) := fun x hx e => by have := (HC0.out.lt x hx).1; have := Heg.out; omega
        go_wp2_with (at_builtin; refine wpList_append_rows Tryz.underlying29 infoC rfl (by decide) (by decide) lenC oneC rfl _ _ rfl (w0.heap.size + 1) _ m (some ⟨v0.heap.size, 0, none⟩) 1 1 [c2] (World.ownsRow.alloc HC0.out _) (by simp [Act.eval]) (by simp [Act.eval]) rfl (fun h => by cases h) (rowat_new (m := 8) (f := fC) v0 c2 63) (by simp; omega) (by have := Hbv0.out.size; have := Hw0r.out; simp; omega) ?_; intro v1 w5 ho5 hg5; obtain ⟨A2, k2, rfl, _, _, _⟩ := ho5.form; have hof5 : Off (fun x => (Value.slice A1 m.length k1).ownBlock = some x) v0 w5 := Off.behind (by go_grown) (Off.of_grown hg5); have HO5 := Lib.hid (OwnR.off HO0.out hof5 (fun x hx e => Hbl.out x e (by simpa [Value.ownBlock] using hx.symm))); have Hof5 := Lib.hid hof5; have HC5 := Lib.hid ho5; clear hof5 ho5 hg5; have y4 := (tab_one HO5.out).2.2.2.2; have f4 := HO5.out.frozen 4)
        have hle : (m ++ [c2]).length = m.length + 1 := by simp
        have HbE : Hid (Below w0.heap.size w0 (w5.setCell ⟨w.heap.size + 1 + 1, 4, none⟩ (.slice A2 (m ++ [c2]).length k2))) := bput ((Hb2.out.trans (Hbv0.out.mono (Nat.le_of_lt Hw0r.out))).trans (Hof5.out.below (fun x _ hx => by have := (HC0.out.lt x hx).1; omega) (Nat.le_trans (Nat.le_of_lt Hw0r.out) Hbv0.out.size))) (by have := Heg.out; omega) 4 _
        have HOE : Hid (OwnTb (w5.setCell ⟨w.heap.size + 1 + 1, 4, none⟩ (.slice A2 (m ++ [c2]).length k2)) w0.heap.size (.slice (some ⟨w.heap.size + 1 + 1, 0, none⟩) 1 1) [⟨id, d.p.tb, kk, (d.p.cols.length : Int), A2, k2, m ++ [c2]⟩]) := by
          have := HO5.out.set1 lenT (k := 0) (i := 4) (x := ⟨id, d.p.tb, kk, (d.p.cols.length : Int), A1, k1, m⟩) (y := ⟨id, d.p.tb, kk, (d.p.cols.length : Int), A2, k2, m ++ [c2]⟩) (u := .slice A2 (m ++ [c2]).length k2) rfl (by omega) rfl
          exact this
        have HCE := Lib.hid (OwnR.off HC5.out (Off.set w5 (w.heap.size + 1 + 1) 4 (.slice A2 (m ++ [c2]).length k2)) (fun x hx e => by have := (HC5.out.lt x hx).1; have := Heg.out; omega))
        have HmE : Hid (m ++ [c2] = (d.p.cols.take (n + 1)).mapIdx fun i c => ({ c with id := (i : Int) } : Cb)) := by
          show _ = _
          rw [idx_snoc Hc.out, ← hm.out, Hc2.out]
        have hlE : (m ++ [c2]).length ≤ n + 1 := by simp; omega
        rw [hle] at HbE HOE HCE
        clear y4 f4 o0 o1 o2 o3 o4
        go_roundw
        case rel => exact ⟨n + 1, A2, k2, m ++ [c2], kk, by omega, by go_num, hlE, HOE.out, by show OwnC _ _ _ _; rw [hle]; exact HCE.out, HmE.out, HkE.out, HbE.out⟩
        case measure => simp [intOf]; omega
      · have HkE : Hid ((n : Int) = (((colP (d.p.cols.take (n + 1)) d.p.key).getD 0 : Nat) : Int)) := by show _ = _; rw [key_yes Hu.out Hc.out (eqS_iff.1 he)]; rfl
        obtain ⟨o0, o1, o2, o3, o4⟩ := tab_one HO0.out
        have f2 := HO0.out.frozen 2
        go_upto_region 9 with fail
        obtain ⟨W, hW⟩ : ∃ W, v0.setCell ⟨w.heap.size + 1 + 1, 2, none⟩ (.int .i64 (n : Int)) = W := ⟨_, rfl⟩
        have HO1 : Hid (OwnTb W w0.heap.size (.slice (some ⟨w.heap.size + 1 + 1, 0, none⟩) 1 1) [⟨id, d.p.tb, (n : Int), (d.p.cols.length : Int), A1, k1, m⟩]) := by
          have := HO0.out.set1 lenT (k := 0) (i := 2) (x := ⟨id, d.p.tb, kk, (d.p.cols.length : Int), A1, k1, m⟩) (y := ⟨id, d.p.tb, (n : Int), (d.p.cols.length : Int), A1, k1, m⟩) (u := .int .i64 (n : Int)) rfl (by omega) rfl
          rw [← hW]; exact this
        have HoW := Off.set v0 (w.heap.size + 1 + 1) 2 (.int .i64 (n : Int))
        rw [hW] at HoW
        have HC1 := Lib.hid (OwnR.off HC0.out HoW (fun x hx e => by have := (HC0.out.lt x hx).1; have := Heg.out; omega))
        have HXc1 : Hid (BlkN W wr.heap.size (fC c2)) := fun i v hv => HoW.keep (HXc.out i v hv) (by show wr.heap.size ≠ _; have := Hw0r.out; have := Heg.out; omega)
        have HbW1 : Hid (Below w0.heap.size wr W) := by rw [← hW]; exact bput (Hbv0.out.mono (Nat.le_of_lt Hw0r.out)) (by have := Heg.out; omega) 2 _
        have HW := Lib.hid hW
        clear hW HoW o0 o1 o2 o3 o4 f2 z0 z1 z2 z3 z4 z5 z6 z7
        rw [HW.out]
        clear HXc
        have HXc := HXc1
        obtain ⟨o0, o1, o2, o3, o4⟩ := tab_one HO1.out
        obtain ⟨z0, z1, z2, z3, z4, z5, z6, z7⟩ := HXc.out.col
        have Hbl : Hid (∀ x, (Value.slice A1 m.length k1).ownBlock = some x → x ≠ w.heap.size + 1 + 1) := fun x hx e => by have := (HC1.out.lt x hx).1; have := Heg.out; omega
        go_wp2_with (at_builtin; refine wpList_append_rows Tryz.underlying29 infoC rfl (by decide) (by decide) lenC oneC rfl _ _ rfl (w0.heap.size + 1) _ m (some ⟨W.heap.size, 0, none⟩) 1 1 [c2] (World.ownsRow.alloc HC1.out _) (by simp [Act.eval]) (by simp [Act.eval]) rfl (fun h => by cases h) (rowat_new (m := 8) (f := fC) W c2 63) (by simp; omega) (by have := HbW1.out.size; have := Hw0r.out; simp; omega) ?_; intro v1 w5 ho5 hg5; obtain ⟨A2, k2, rfl, _, _, _⟩ := ho5.form; have hof5 : Off (fun x => (Value.slice A1 m.length k1).ownBlock = some x) W w5 := Off.behind (by go_grown) (Off.of_grown hg5); have HO5 := Lib.hid (OwnR.off HO1.out hof5 (fun x hx e => Hbl.out x e (by simpa [Value.ownBlock] using hx.symm))); have Hof5 := Lib.hid hof5; have HC5 := Lib.hid ho5; clear hof5 ho5 hg5; have y4 := (tab_one HO5.out).2.2.2.2; have f4 := HO5.out.frozen 4)
        have hle : (m ++ [c2]).length = m.length + 1 := by simp
        have HbE : Hid (Below w0.heap.size w0 (w5.setCell ⟨w.heap.size + 1 + 1, 4, none⟩ (.slice A2 (m ++ [c2]).length k2))) := bput ((Hb2.out.trans (HbW1.out)).trans (Hof5.out.below (fun x _ hx => by have := (HC1.out.lt x hx).1; omega) (Nat.le_trans (Nat.le_of_lt Hw0r.out) HbW1.out.size))) (by have := Heg.out; omega) 4 _
        have HOE : Hid (OwnTb (w5.setCell ⟨w.heap.size + 1 + 1, 4, none⟩ (.slice A2 (m ++ [c2]).length k2)) w0.heap.size (.slice (some ⟨w.heap.size + 1 + 1, 0, none⟩) 1 1) [⟨id, d.p.tb, (n : Int), (d.p.cols.length : Int), A2, k2, m ++ [c2]⟩]) := by
          have := HO5.out.set1 lenT (k := 0) (i := 4) (x := ⟨id, d.p.tb, (n : Int), (d.p.cols.length : Int), A1, k1, m⟩) (y := ⟨id, d.p.tb, (n : Int), (d.p.cols.length : Int), A2, k2, m ++ [c2]⟩) (u := .slice A2 (m ++ [c2]).length k2) rfl (by omega) rfl
          exact this
        have HCE := Lib.hid (OwnR.off HC5.out (Off.set w5 (w.heap.size + 1 + 1) 4 (.slice A2 (m ++ [c2]).length k2)) (fun x hx e => by have := (HC5.out.lt x hx).1; have := Heg.out; omega))
        have HmE : Hid (m ++ [c2] = (d.p.cols.take (n + 1)).mapIdx fun i c => ({ c with id := (i : Int) } : Cb)) := by
          show _ = _
          rw [idx_snoc Hc.out, ← hm.out, Hc2.out]
        have hlE : (m ++ [c2]).length ≤ n + 1 := by simp; omega
        rw [hle] at HbE HOE HCE
        clear y4 f4 o0 o1 o2 o3 o4
        go_roundw
        case rel => exact ⟨n + 1, A2, k2, m ++ [c2], (n : Int), by omega, by go_num, hlE, HOE.out, by show OwnC _ _ _ _; rw [hle]; exact HCE.out, HmE.out, HkE.out, HbE.out⟩
        case measure => simp [intOf]; omega
    · have hmF : m = d.p.cols.mapIdx fun i c => ({ c with id := (i : Int) } : Cb) := by rw [hm.out, List.take_of_length_le (by omega)]
      have HmF := Lib.hid hmF; clear hmF
      have hkF : kk = (((colP d.p.cols d.p.key).getD 0 : Nat) : Int) := by rw [hkk.out, List.take_of_length_le (by omega)]
      have HkF := Lib.hid hkF; clear hkF
      have Hres : Hid (wr.heap[w.heap.size + 1]? = some (.cells #[.int .i64 0, .string ⟨#[]⟩, .int .i64 0, .int .i64 0, .slice none 0 0] 51 (0, 0))) := (Hb2.out.block (w.heap.size + 1) (by have := Hs0.out; omega)).trans HR.out
      obtain ⟨o0, o1, o2, o3, o4⟩ := tab_one hO9.out
      have r0 : wr.cell? ⟨w.heap.size + 1, 0, none⟩ = some (.int .i64 0) := by rw [cell_of_row wr _ 0 _ _ (0, 0) Hres.out]; rfl
      have g0 : wr.frozen? ⟨w.heap.size + 1, 0, none⟩ = false := frozen_of_row wr _ 0 _ _ Hres.out
      have r1 : wr.cell? ⟨w.heap.size + 1, 1, none⟩ = some (.string ⟨#[]⟩) := by rw [cell_of_row wr _ 1 _ _ (0, 0) Hres.out]; rfl
      have g1 : wr.frozen? ⟨w.heap.size + 1, 1, none⟩ = false := frozen_of_row wr _ 1 _ _ Hres.out
      have r2 : wr.cell? ⟨w.heap.size + 1, 2, none⟩ = some (.int .i64 0) := by rw [cell_of_row wr _ 2 _ _ (0, 0) Hres.out]; rfl
      have g2 : wr.frozen? ⟨w.heap.size + 1, 2, none⟩ = false := frozen_of_row wr _ 2 _ _ Hres.out
      have r3 : wr.cell? ⟨w.heap.size + 1, 3, none⟩ = some (.int .i64 0) := by rw [cell_of_row wr _ 3 _ _ (0, 0) Hres.out]; rfl
      have g3 : wr.frozen? ⟨w.heap.size + 1, 3, none⟩ = false := frozen_of_row wr _ 3 _ _ Hres.out
      have r4 : wr.cell? ⟨w.heap.size + 1, 4, none⟩ = some (.slice none 0 0) := by rw [cell_of_row wr _ 4 _ _ (0, 0) Hres.out]; rfl
      have g4 : wr.frozen? ⟨w.heap.size + 1, 4, none⟩ = false := frozen_of_row wr _ 4 _ _ Hres.out
      have HBk := Lib.hid (put_tab ⟨id, d.p.tb, kk, (d.p.cols.length : Int), A1, k1, m⟩ Hres.out rfl)
      have HC0 := Lib.hid (hC9.out.off (off_set5 wr (w.heap.size + 1) (.int .i64 id) (.string d.p.tb) (.int .i64 kk) (.int .i64 (d.p.cols.length : Int)) (.slice A1 m.length k1)) (fun x hx e => by have := (hC9.out.lt x hx).1; have := Heg.out; omega))
      have HbE := Lib.hid ((off_set5 wr (w.heap.size + 1) (.int .i64 id) (.string d.p.tb) (.int .i64 kk) (.int .i64 (d.p.cols.length : Int)) (.slice A1 m.length k1)).below (B := w.heap.size) (fun x _ e => by omega) (by have := Hw0r.out; have := Heg.out; omega))
      have HE : Hid (MadeEnd d.p id w (.returned (TV ⟨id, d.p.tb, kk, (d.p.cols.length : Int), A1, k1, m⟩)) (set5 wr (w.heap.size + 1) (.int .i64 id) (.string d.p.tb) (.int .i64 kk) (.int .i64 (d.p.cols.length : Int)) (.slice A1 m.length k1))) := by
        refine ⟨_, rfl, ?_, HC0.out.mono (by have := Heg.out; omega), ((bthen HbW.out Hb2.out)).trans HbE.out⟩
        show (⟨id, d.p.tb, kk, (d.p.cols.length : Int), m⟩ : Tp) = _
        unfold madeT
        rw [HmF.out, HkF.out]
      go_wp2_with fail
      refine bodyPost_ret (results_tb1 rfl _ _ rfl HBk.out) rfl ?_
      exact HE.out
end Go.Proofs.YthmjgaekcghonaaGreatDoor

/-
  Contract of the document's own Plain of layer 9.
-/
namespace Go.Proofs.YthmjgaekcghonaaGreatDoor
open Go.RowKit

/-- a change in its box, and another one -/
theorem box_dxd (w : World) (d x : Db) : ∃ w0, ((w.alloc (.cells #[.int .i64 d.p.op, .string d.p.tb, .string d.p.co, .string d.p.to, .string d.p.key, .int .i64 d.p.tk, .int .i64 d.p.tm, .bool d.p.nl, .int .i64 d.p.dk, .int .i64 d.p.dn, .string d.p.ds, .slice d.A d.p.cols.length d.cap] 31)).alloc (.cells #[.int .i64 x.p.op, .string x.p.tb, .string x.p.co, .string x.p.to, .string x.p.key, .int .i64 x.p.tk, .int .i64 x.p.tm, .bool x.p.nl, .int .i64 x.p.dk, .int .i64 x.p.dn, .string x.p.ds, .slice x.A x.p.cols.length x.cap] 31)).drew = w0 ∧
    Below w.heap.size w w0 ∧ BlkN w0 w.heap.size (fD d) ∧ BlkN w0 (w.heap.size + 1) (fD x) ∧ w0.heap.size = w.heap.size + 2 :=
  ⟨_, rfl, (below_two w _ _).drew, fun i v hv => ((BlkN.new w _ (fD d) _ rfl).alloc (by simp) (.cells (fD x).toArray 31)) i v hv, fun i v hv => (BlkN.new (w.alloc (.cells (fD d).toArray 31)) _ (fD x) 31 (by simp)) i v hv, by simp⟩
theorem cols_stop {l : List Cb} {k : Nat} {x : Cb} (hx : l[k]? = some x) (h : (x.id == 0) = false) : (l.all fun c => c.id == 0) = false := all_stop8 hx h
set_option maxRecDepth 100000 in
set_option maxHeartbeats 6000000 in
theorem rplain_any (d : Db) (w : World) (hD : DdlAt w w.heap.size d) (hl : d.p.cols.length ≤ 1000000) : Calls Tryz.prog 21 #[DV d] w fun e w' => e = .returned (.bool (plainD d.p)) ∧ Below w.heap.size w w' := by
  have HD := Lib.hid hD; clear hD
  have HS := Lib.hid (fun (x : Db) (w' : World) (hx : DdlAt w' w'.heap.size x) (hd : DdlAt w' w'.heap.size d) (hxl : x.p.cols.length ≤ 1000000) => rsame9_any x d w' hx hd hxl hl)
  by_cases e2 : d.p.op = 2
  · have Hv : Hid (sameD ⟨⟨d.p.op, d.p.tb, ⟨#[]⟩, ⟨#[]⟩, ⟨#[]⟩, 0, 0, false, 0, 0, ⟨#[]⟩, []⟩, none, 0⟩ d = plainD d.p) := kept_plain d ⟨⟨d.p.op, d.p.tb, ⟨#[]⟩, ⟨#[]⟩, ⟨#[]⟩, 0, 0, false, 0, 0, ⟨#[]⟩, []⟩, none, 0⟩ (by unfold keptD; simp only [e2, reduceIte, Int.reduceEq]; rfl) (by omega) (by omega)
    have HS1 : Hid (∀ w', DdlAt w' w'.heap.size d → Calls Tryz.prog 45 #[DV ⟨⟨d.p.op, d.p.tb, ⟨#[]⟩, ⟨#[]⟩, ⟨#[]⟩, 0, 0, false, 0, 0, ⟨#[]⟩, []⟩, none, 0⟩, DV d] w' fun e w2 => e = .returned (.bool (plainD d.p)) ∧ Below w'.heap.size w' w2) := fun w' h => by
      have h1 := HS.out ⟨⟨d.p.op, d.p.tb, ⟨#[]⟩, ⟨#[]⟩, ⟨#[]⟩, 0, 0, false, 0, 0, ⟨#[]⟩, []⟩, none, 0⟩ w' (fun h0 => absurd h0 (by simp)) h (by simp)
      rwa [Hv.out] at h1
    clear Hv HS
    generalize plainD d.p = R at HS1 ⊢
    have q1 : (d.p.op == 1) = false := by rw [beq_eq_false_iff_ne]; omega
    have q2 : (d.p.op == 2) = true := by rw [beq_iff_eq]; omega
    clear e2
    go_enter Tryz.func21, Tryz.ntmps21
    go_wp2_with fail
    refine (HS1.out _ (HD.out.to (by go_grown))).mono ?_
    rintro e w1 ⟨rfl, hb1⟩
    have Hb1 : Hid (Below w.heap.size w w1) := bthen (by go_grown) hb1
    clear hb1
    go_wp2_with fail
    go_ret
    exact ⟨rfl, Hb1.out⟩
  by_cases e3 : d.p.op = 3
  · have Hv : Hid (sameD ⟨⟨d.p.op, d.p.tb, ⟨#[]⟩, d.p.to, ⟨#[]⟩, 0, 0, false, 0, 0, ⟨#[]⟩, []⟩, none, 0⟩ d = plainD d.p) := kept_plain d ⟨⟨d.p.op, d.p.tb, ⟨#[]⟩, d.p.to, ⟨#[]⟩, 0, 0, false, 0, 0, ⟨#[]⟩, []⟩, none, 0⟩ (by unfold keptD; simp only [e3, reduceIte, Int.reduceEq]; rfl) (by omega) (by omega)
    have HS1 : Hid (∀ w', DdlAt w' w'.heap.size d → Calls Tryz.prog 45 #[DV ⟨⟨d.p.op, d.p.tb, ⟨#[]⟩, d.p.to, ⟨#[]⟩, 0, 0, false, 0, 0, ⟨#[]⟩, []⟩, none, 0⟩, DV d] w' fun e w2 => e = .returned (.bool (plainD d.p)) ∧ Below w'.heap.size w' w2) := fun w' h => by
      have h1 := HS.out ⟨⟨d.p.op, d.p.tb, ⟨#[]⟩, d.p.to, ⟨#[]⟩, 0, 0, false, 0, 0, ⟨#[]⟩, []⟩, none, 0⟩ w' (fun h0 => absurd h0 (by simp)) h (by simp)
      rwa [Hv.out] at h1
    clear Hv HS
    generalize plainD d.p = R at HS1 ⊢
    have q1 : (d.p.op == 1) = false := by rw [beq_eq_false_iff_ne]; omega
    have q2 : (d.p.op == 2) = false := by rw [beq_eq_false_iff_ne]; omega
    have q3 : (d.p.op == 3) = true := by rw [beq_iff_eq]; omega
    clear e2 e3
    go_enter Tryz.func21, Tryz.ntmps21
    go_wp2_with fail
    refine (HS1.out _ (HD.out.to (by go_grown))).mono ?_
    rintro e w1 ⟨rfl, hb1⟩
    have Hb1 : Hid (Below w.heap.size w w1) := bthen (by go_grown) hb1
    clear hb1
    go_wp2_with fail
    go_ret
    exact ⟨rfl, Hb1.out⟩
  by_cases e4 : d.p.op = 4
  · have Hv : Hid (sameD ⟨⟨d.p.op, d.p.tb, d.p.co, ⟨#[]⟩, ⟨#[]⟩, d.p.tk, d.p.tm, d.p.nl, d.p.dk, d.p.dn, d.p.ds, []⟩, none, 0⟩ d = plainD d.p) := kept_plain d ⟨⟨d.p.op, d.p.tb, d.p.co, ⟨#[]⟩, ⟨#[]⟩, d.p.tk, d.p.tm, d.p.nl, d.p.dk, d.p.dn, d.p.ds, []⟩, none, 0⟩ (by unfold keptD; simp only [e4, reduceIte, Int.reduceEq]; rfl) (by omega) (by omega)
    have HS1 : Hid (∀ w', DdlAt w' w'.heap.size d → Calls Tryz.prog 45 #[DV ⟨⟨d.p.op, d.p.tb, d.p.co, ⟨#[]⟩, ⟨#[]⟩, d.p.tk, d.p.tm, d.p.nl, d.p.dk, d.p.dn, d.p.ds, []⟩, none, 0⟩, DV d] w' fun e w2 => e = .returned (.bool (plainD d.p)) ∧ Below w'.heap.size w' w2) := fun w' h => by
      have h1 := HS.out ⟨⟨d.p.op, d.p.tb, d.p.co, ⟨#[]⟩, ⟨#[]⟩, d.p.tk, d.p.tm, d.p.nl, d.p.dk, d.p.dn, d.p.ds, []⟩, none, 0⟩ w' (fun h0 => absurd h0 (by simp)) h (by simp)
      rwa [Hv.out] at h1
    clear Hv HS
    generalize plainD d.p = R at HS1 ⊢
    have q1 : (d.p.op == 1) = false := by rw [beq_eq_false_iff_ne]; omega
    have q2 : (d.p.op == 2) = false := by rw [beq_eq_false_iff_ne]; omega
    have q3 : (d.p.op == 3) = false := by rw [beq_eq_false_iff_ne]; omega
    have q4 : (d.p.op == 4) = true := by rw [beq_iff_eq]; omega
    clear e2 e3 e4
    go_enter Tryz.func21, Tryz.ntmps21
    go_wp2_with fail
    go_region
    go_wp2_with fail
    refine (HS1.out _ (HD.out.to (by go_grown))).mono ?_
    rintro e w1 ⟨rfl, hb1⟩
    have Hb1 : Hid (Below w.heap.size w w1) := bthen (by go_grown) hb1
    clear hb1
    go_wp2_with fail
    go_ret
    exact ⟨rfl, Hb1.out⟩
  by_cases e5 : d.p.op = 5
  · have Hv : Hid (sameD ⟨⟨d.p.op, d.p.tb, d.p.co, ⟨#[]⟩, ⟨#[]⟩, 0, 0, false, 0, 0, ⟨#[]⟩, []⟩, none, 0⟩ d = plainD d.p) := kept_plain d ⟨⟨d.p.op, d.p.tb, d.p.co, ⟨#[]⟩, ⟨#[]⟩, 0, 0, false, 0, 0, ⟨#[]⟩, []⟩, none, 0⟩ (by unfold keptD; simp only [e5, reduceIte, Int.reduceEq]; rfl) (by omega) (by omega)
    have HS1 : Hid (∀ w', DdlAt w' w'.heap.size d → Calls Tryz.prog 45 #[DV ⟨⟨d.p.op, d.p.tb, d.p.co, ⟨#[]⟩, ⟨#[]⟩, 0, 0, false, 0, 0, ⟨#[]⟩, []⟩, none, 0⟩, DV d] w' fun e w2 => e = .returned (.bool (plainD d.p)) ∧ Below w'.heap.size w' w2) := fun w' h => by
      have h1 := HS.out ⟨⟨d.p.op, d.p.tb, d.p.co, ⟨#[]⟩, ⟨#[]⟩, 0, 0, false, 0, 0, ⟨#[]⟩, []⟩, none, 0⟩ w' (fun h0 => absurd h0 (by simp)) h (by simp)
      rwa [Hv.out] at h1
    clear Hv HS
    generalize plainD d.p = R at HS1 ⊢
    have q1 : (d.p.op == 1) = false := by rw [beq_eq_false_iff_ne]; omega
    have q2 : (d.p.op == 2) = false := by rw [beq_eq_false_iff_ne]; omega
    have q3 : (d.p.op == 3) = false := by rw [beq_eq_false_iff_ne]; omega
    have q4 : (d.p.op == 4) = false := by rw [beq_eq_false_iff_ne]; omega
    have q5 : (d.p.op == 5) = true := by rw [beq_iff_eq]; omega
    clear e2 e3 e4 e5
    go_enter Tryz.func21, Tryz.ntmps21
    go_wp2_with fail
    refine (HS1.out _ (HD.out.to (by go_grown))).mono ?_
    rintro e w1 ⟨rfl, hb1⟩
    have Hb1 : Hid (Below w.heap.size w w1) := bthen (by go_grown) hb1
    clear hb1
    go_wp2_with fail
    go_ret
    exact ⟨rfl, Hb1.out⟩
  by_cases e6 : d.p.op = 6
  · have Hv : Hid (sameD ⟨⟨d.p.op, d.p.tb, d.p.co, d.p.to, ⟨#[]⟩, 0, 0, false, 0, 0, ⟨#[]⟩, []⟩, none, 0⟩ d = plainD d.p) := kept_plain d ⟨⟨d.p.op, d.p.tb, d.p.co, d.p.to, ⟨#[]⟩, 0, 0, false, 0, 0, ⟨#[]⟩, []⟩, none, 0⟩ (by unfold keptD; simp only [e6, reduceIte, Int.reduceEq]; rfl) (by omega) (by omega)
    have HS1 : Hid (∀ w', DdlAt w' w'.heap.size d → Calls Tryz.prog 45 #[DV ⟨⟨d.p.op, d.p.tb, d.p.co, d.p.to, ⟨#[]⟩, 0, 0, false, 0, 0, ⟨#[]⟩, []⟩, none, 0⟩, DV d] w' fun e w2 => e = .returned (.bool (plainD d.p)) ∧ Below w'.heap.size w' w2) := fun w' h => by
      have h1 := HS.out ⟨⟨d.p.op, d.p.tb, d.p.co, d.p.to, ⟨#[]⟩, 0, 0, false, 0, 0, ⟨#[]⟩, []⟩, none, 0⟩ w' (fun h0 => absurd h0 (by simp)) h (by simp)
      rwa [Hv.out] at h1
    clear Hv HS
    generalize plainD d.p = R at HS1 ⊢
    have q1 : (d.p.op == 1) = false := by rw [beq_eq_false_iff_ne]; omega
    have q2 : (d.p.op == 2) = false := by rw [beq_eq_false_iff_ne]; omega
    have q3 : (d.p.op == 3) = false := by rw [beq_eq_false_iff_ne]; omega
    have q4 : (d.p.op == 4) = false := by rw [beq_eq_false_iff_ne]; omega
    have q5 : (d.p.op == 5) = false := by rw [beq_eq_false_iff_ne]; omega
    have q6 : (d.p.op == 6) = true := by rw [beq_iff_eq]; omega
    clear e2 e3 e4 e5 e6
    go_enter Tryz.func21, Tryz.ntmps21
    go_wp2_with fail
    go_region
    go_wp2_with fail
    refine (HS1.out _ (HD.out.to (by go_grown))).mono ?_
    rintro e w1 ⟨rfl, hb1⟩
    have Hb1 : Hid (Below w.heap.size w w1) := bthen (by go_grown) hb1
    clear hb1
    go_wp2_with fail
    go_ret
    exact ⟨rfl, Hb1.out⟩
  by_cases e7 : d.p.op = 7
  · have Hv : Hid (sameD ⟨⟨d.p.op, d.p.tb, d.p.co, ⟨#[]⟩, ⟨#[]⟩, d.p.tk, d.p.tm, false, 0, 0, ⟨#[]⟩, []⟩, none, 0⟩ d = plainD d.p) := kept_plain d ⟨⟨d.p.op, d.p.tb, d.p.co, ⟨#[]⟩, ⟨#[]⟩, d.p.tk, d.p.tm, false, 0, 0, ⟨#[]⟩, []⟩, none, 0⟩ (by unfold keptD; simp only [e7, reduceIte, Int.reduceEq]; rfl) (by omega) (by omega)
    have HS1 : Hid (∀ w', DdlAt w' w'.heap.size d → Calls Tryz.prog 45 #[DV ⟨⟨d.p.op, d.p.tb, d.p.co, ⟨#[]⟩, ⟨#[]⟩, d.p.tk, d.p.tm, false, 0, 0, ⟨#[]⟩, []⟩, none, 0⟩, DV d] w' fun e w2 => e = .returned (.bool (plainD d.p)) ∧ Below w'.heap.size w' w2) := fun w' h => by
      have h1 := HS.out ⟨⟨d.p.op, d.p.tb, d.p.co, ⟨#[]⟩, ⟨#[]⟩, d.p.tk, d.p.tm, false, 0, 0, ⟨#[]⟩, []⟩, none, 0⟩ w' (fun h0 => absurd h0 (by simp)) h (by simp)
      rwa [Hv.out] at h1
    clear Hv HS
    generalize plainD d.p = R at HS1 ⊢
    have q1 : (d.p.op == 1) = false := by rw [beq_eq_false_iff_ne]; omega
    have q2 : (d.p.op == 2) = false := by rw [beq_eq_false_iff_ne]; omega
    have q3 : (d.p.op == 3) = false := by rw [beq_eq_false_iff_ne]; omega
    have q4 : (d.p.op == 4) = false := by rw [beq_eq_false_iff_ne]; omega
    have q5 : (d.p.op == 5) = false := by rw [beq_eq_false_iff_ne]; omega
    have q6 : (d.p.op == 6) = false := by rw [beq_eq_false_iff_ne]; omega
    have q7 : (d.p.op == 7) = true := by rw [beq_iff_eq]; omega
    clear e2 e3 e4 e5 e6 e7
    go_enter Tryz.func21, Tryz.ntmps21
    go_wp2_with fail
    go_region
    go_wp2_with fail
    refine (HS1.out _ (HD.out.to (by go_grown))).mono ?_
    rintro e w1 ⟨rfl, hb1⟩
    have Hb1 : Hid (Below w.heap.size w w1) := bthen (by go_grown) hb1
    clear hb1
    go_wp2_with fail
    go_ret
    exact ⟨rfl, Hb1.out⟩
  by_cases e8 : d.p.op = 8
  · have Hv : Hid (sameD ⟨⟨d.p.op, d.p.tb, d.p.co, ⟨#[]⟩, ⟨#[]⟩, 0, 0, false, d.p.dk, d.p.dn, d.p.ds, []⟩, none, 0⟩ d = plainD d.p) := kept_plain d ⟨⟨d.p.op, d.p.tb, d.p.co, ⟨#[]⟩, ⟨#[]⟩, 0, 0, false, d.p.dk, d.p.dn, d.p.ds, []⟩, none, 0⟩ (by unfold keptD; simp only [e8, reduceIte, Int.reduceEq]; rfl) (by omega) (by omega)
    have HS1 : Hid (∀ w', DdlAt w' w'.heap.size d → Calls Tryz.prog 45 #[DV ⟨⟨d.p.op, d.p.tb, d.p.co, ⟨#[]⟩, ⟨#[]⟩, 0, 0, false, d.p.dk, d.p.dn, d.p.ds, []⟩, none, 0⟩, DV d] w' fun e w2 => e = .returned (.bool (plainD d.p)) ∧ Below w'.heap.size w' w2) := fun w' h => by
      have h1 := HS.out ⟨⟨d.p.op, d.p.tb, d.p.co, ⟨#[]⟩, ⟨#[]⟩, 0, 0, false, d.p.dk, d.p.dn, d.p.ds, []⟩, none, 0⟩ w' (fun h0 => absurd h0 (by simp)) h (by simp)
      rwa [Hv.out] at h1
    clear Hv HS
    generalize plainD d.p = R at HS1 ⊢
    have q1 : (d.p.op == 1) = false := by rw [beq_eq_false_iff_ne]; omega
    have q2 : (d.p.op == 2) = false := by rw [beq_eq_false_iff_ne]; omega
    have q3 : (d.p.op == 3) = false := by rw [beq_eq_false_iff_ne]; omega
    have q4 : (d.p.op == 4) = false := by rw [beq_eq_false_iff_ne]; omega
    have q5 : (d.p.op == 5) = false := by rw [beq_eq_false_iff_ne]; omega
    have q6 : (d.p.op == 6) = false := by rw [beq_eq_false_iff_ne]; omega
    have q7 : (d.p.op == 7) = false := by rw [beq_eq_false_iff_ne]; omega
    have q8 : (d.p.op == 8) = true := by rw [beq_iff_eq]; omega
    clear e2 e3 e4 e5 e6 e7 e8
    go_enter Tryz.func21, Tryz.ntmps21
    go_wp2_with fail
    go_region
    go_wp2_with fail
    refine (HS1.out _ (HD.out.to (by go_grown))).mono ?_
    rintro e w1 ⟨rfl, hb1⟩
    have Hb1 : Hid (Below w.heap.size w w1) := bthen (by go_grown) hb1
    clear hb1
    go_wp2_with fail
    go_ret
    exact ⟨rfl, Hb1.out⟩
  by_cases e1 : d.p.op = 1
  · have Hl := Lib.hid hl; clear hl
    have q1 : (d.p.op == 1) = true := by rw [beq_iff_eq]; omega
    have E1 := Lib.hid e1
    clear e1 e2 e3 e4 e5 e6 e7 e8
    go_enter Tryz.func21, Tryz.ntmps21
    go_wp2_with fail
    go_region
    go_wp2_with fail
    obtain ⟨w0, hw0, hb0, hX, hY, hs0⟩ := box_dxd w d ⟨⟨d.p.op, d.p.tb, ⟨#[]⟩, ⟨#[]⟩, d.p.key, 0, 0, false, 0, 0, ⟨#[]⟩, d.p.cols⟩, d.A, d.cap⟩
    dsimp only at hw0
    have Hw0 := Lib.hid hw0; clear hw0
    have HbW := Lib.hid hb0
    have HX := Lib.hid hX; clear hX
    have HY := Lib.hid hY; clear hY
    have Hs0 := Lib.hid hs0; clear hs0
    have HD0 := Lib.hid (HD.out.to hb0); clear hb0
    rw [Hw0.out]
    obtain ⟨x0, x1, x2, x3, x4, x5, x6, x7, x8, x9, x10, x11⟩ := HX.out.ddl
    obtain ⟨y0, y1, y2, y3, y4, y5, y6, y7, y8, y9, y10, y11⟩ := HY.out.ddl
    dsimp only at y0 y1 y2 y3 y4 y5 y6 y7 y8 y9 y10 y11
    go_loop [4] (fun i => ∃ k : Nat, k ≤ d.p.cols.length ∧ i = .int .i64 k ∧ Hid (∀ j x, d.p.cols[j]? = some x → j < k → (x.id == 0) = true)) (fun i => d.p.cols.length - (intOf i).toNat)
    case atStart => exact ⟨0, by omega, rfl, fun j v _ h => absurd h (by omega)⟩
    case round =>
      obtain ⟨k, hk, rfl, hall⟩ := hrel
      have hl := Hl.out
      by_cases hlt : k < d.p.cols.length
      · obtain ⟨c, hc⟩ : ∃ c, d.p.cols[k]? = some c := ⟨d.p.cols[k], by simp [hlt]⟩
        have Hc := Lib.hid hc
        obtain ⟨b, off, hAe, hbB, d0, d1, d2, d3, d4, d5, d6, d7⟩ := ColsAt.get HD0.out k c hc
        rw [hAe] at x11
        clear hc hAe
        cases hp : (c.id == 0)
        · have Hno : Hid (plainD d.p = false) := by
            show _ = _
            unfold plainD
            rw [if_pos E1.out, cols_stop Hc.out hp]
            simp
          go_wp2_with fail
          go_ret
          exact ⟨by rw [Hno.out]; rfl, HbW.out⟩
        · have Hall : Hid (∀ j x, d.p.cols[j]? = some x → j < k + 1 → (x.id == 0) = true) := fun j y hj hk => by
            by_cases e : j = k
            · subst e
              rw [Hc.out] at hj
              cases hj
              exact hp
            · exact hall.out j y hj (by omega)
          go_wp2_with fail
          go_round
          case rel => exact ⟨k + 1, by omega, by go_num, Hall.out⟩
          case measure => simp [intOf]; omega
      · have hyes : (d.p.cols.all fun c => c.id == 0) = true := all_at fun j x hj => hall.out j x hj (by have := (List.getElem?_eq_some_iff.1 hj).1; omega)
        have HS1 : Hid (Calls Tryz.prog 45 #[DV ⟨⟨d.p.op, d.p.tb, ⟨#[]⟩, ⟨#[]⟩, d.p.key, 0, 0, false, 0, 0, ⟨#[]⟩, d.p.cols⟩, d.A, d.cap⟩, DV d] w0 fun e w2 => e = .returned (.bool (plainD d.p)) ∧ Below w0.heap.size w0 w2) := by
          have h1 := HS.out ⟨⟨d.p.op, d.p.tb, ⟨#[]⟩, ⟨#[]⟩, d.p.key, 0, 0, false, 0, 0, ⟨#[]⟩, d.p.cols⟩, d.A, d.cap⟩ w0 HD0.out HD0.out hl
          rwa [kept_plain d ⟨⟨d.p.op, d.p.tb, ⟨#[]⟩, ⟨#[]⟩, d.p.key, 0, 0, false, 0, 0, ⟨#[]⟩, d.p.cols⟩, d.A, d.cap⟩ (by unfold keptD; simp only [E1.out, reduceIte]; rfl) (.inl E1.out) (fun _ => hyes)] at h1
        clear hyes HS
        obtain ⟨R, hR⟩ : ∃ R, plainD d.p = R := ⟨_, rfl⟩
        rw [hR] at HS1
        have HR := Lib.hid hR; clear hR
        go_wp2_with fail
        refine HS1.out.mono ?_
        rintro e w1 ⟨rfl, hb1⟩
        have Hb1 := Lib.hid (bthen HbW.out hb1); clear hb1
        go_wp2_with fail
        go_ret
        exact ⟨by rw [HR.out]; rfl, Hb1.out⟩
  have Hv : Hid (plainD d.p = false) := plainD_no d.p (by omega)
  generalize plainD d.p = R at Hv ⊢
  have q1 : (d.p.op == 1) = false := by rw [beq_eq_false_iff_ne]; omega
  have q2 : (d.p.op == 2) = false := by rw [beq_eq_false_iff_ne]; omega
  have q3 : (d.p.op == 3) = false := by rw [beq_eq_false_iff_ne]; omega
  have q4 : (d.p.op == 4) = false := by rw [beq_eq_false_iff_ne]; omega
  have q5 : (d.p.op == 5) = false := by rw [beq_eq_false_iff_ne]; omega
  have q6 : (d.p.op == 6) = false := by rw [beq_eq_false_iff_ne]; omega
  have q7 : (d.p.op == 7) = false := by rw [beq_eq_false_iff_ne]; omega
  have q8 : (d.p.op == 8) = false := by rw [beq_eq_false_iff_ne]; omega
  clear e1 e2 e3 e4 e5 e6 e7 e8
  go_enter Tryz.func21, Tryz.ntmps21
  go_wp2_with fail
  go_ret
  exact ⟨by rw [Hv.out]; rfl, by go_grown⟩
end Go.Proofs.YthmjgaekcghonaaGreatDoor
