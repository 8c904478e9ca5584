/-
  Texts that the proof needs, one behind the other: DdlRefSameC, DdlSameMath, DdlLawMath, DdlRefAppM, TypRefWideC, DdlRefC, DdlRefC2, DdlRefC3, TypRefCastC.
-/
import Derived.Deep.QuietTactic
import Derived.BigQuiet
import Derived.Test.YthmjgaekcghonaaGreatDoorPart1
import Derived.Test.YthmjgaekcghonaaGreatDoorPart2
import Derived.Test.YthmjgaekcghonaaGreatDoorPart3
import Derived.Test.YthmjgaekcghonaaGreatDoorPart4
import Derived.Test.YthmjgaekcghonaaGreatDoorPart5
import Derived.Test.YthmjgaekcghonaaGreatDoorPart6
import Derived.Test.YthmjgaekcghonaaGreatDoorPart7
import Derived.Test.YthmjgaekcghonaaGreatDoorPart8

/-
  Contract of the document's Same of changes.
-/
namespace Go.Proofs.YthmjgaekcghonaaGreatDoor
open Go.RowKit

/-- are two changes alike in all parts? -/
noncomputable def sameD (a b : Db) : Bool := (a.p.op == b.p.op) && ((a.p.tb.toList == b.p.tb.toList) && ((a.p.co.toList == b.p.co.toList) && ((a.p.to.toList == b.p.to.toList) && ((a.p.key.toList == b.p.key.toList) && ((a.p.tk == b.p.tk) && ((a.p.tm == b.p.tm) && ((a.p.nl == b.p.nl) && ((a.p.dk == b.p.dk) && ((a.p.dn == b.p.dn) && ((a.p.ds.toList == b.p.ds.toList) && tf (Pair eqC a.p.cols b.p.cols)))))))))))
set_option maxRecDepth 100000 in
set_option maxHeartbeats 2000000 in
theorem rsame9_any (a b : Db) (w : World) (hA : DdlAt w w.heap.size a) (hB : DdlAt w w.heap.size b) (hl : a.p.cols.length ≤ 1000000) (hl2 : b.p.cols.length ≤ 1000000) :
    Calls Tryz.prog 45 #[DV a, DV b] w fun e w' => e = .returned (.bool (sameD a b)) ∧ Below w.heap.size w w' := by
  obtain ⟨w0, hw0, hb0, hX, hY, hs0⟩ := box_dd w a b
  have Hw0 := Lib.hid hw0; clear hw0 hX hY hs0
  have Hb0 := Lib.hid hb0
  have HEq := Lib.hid (rsamec_any a.A b.A a.cap b.cap a.p.cols b.p.cols w0 (RowAt.to hA hb0) (RowAt.to hB hb0) hl hl2)
  rw [← Hw0.out] at HEq
  clear hA hB hb0
  have Hv : Hid (sameD a b = ((a.p.op == b.p.op) && ((a.p.tb.toList == b.p.tb.toList) && ((a.p.co.toList == b.p.co.toList) && ((a.p.to.toList == b.p.to.toList) && ((a.p.key.toList == b.p.key.toList) && ((a.p.tk == b.p.tk) && ((a.p.tm == b.p.tm) && ((a.p.nl == b.p.nl) && ((a.p.dk == b.p.dk) && ((a.p.dn == b.p.dn) && ((a.p.ds.toList == b.p.ds.toList) && tf (Pair eqC a.p.cols b.p.cols))))))))))))) := rfl
  generalize sameD a b = R at Hv ⊢
  generalize tf (Pair eqC a.p.cols b.p.cols) = e2 at HEq Hv
  cases h0 : (a.p.op == b.p.op)
  · rw [h0] at Hv
    go_enter Tryz.func45, Tryz.ntmps45
    go_wp2_with fail
    rw [Hw0.out]
    go_ret
    exact ⟨by rw [Hv.out]; rfl, Hb0.out⟩
  rw [h0] at Hv
  cases h1 : (a.p.tb.toList == b.p.tb.toList)
  · rw [h1] at Hv
    go_enter Tryz.func45, Tryz.ntmps45
    go_wp2_with fail
    rw [Hw0.out]
    go_ret
    exact ⟨by rw [Hv.out]; rfl, Hb0.out⟩
  rw [h1] at Hv
  cases h2 : (a.p.co.toList == b.p.co.toList)
  · rw [h2] at Hv
    go_enter Tryz.func45, Tryz.ntmps45
    go_wp2_with fail
    rw [Hw0.out]
    go_ret
    exact ⟨by rw [Hv.out]; rfl, Hb0.out⟩
  rw [h2] at Hv
  cases h3 : (a.p.to.toList == b.p.to.toList)
  · rw [h3] at Hv
    go_enter Tryz.func45, Tryz.ntmps45
    go_wp2_with fail
    rw [Hw0.out]
    go_ret
    exact ⟨by rw [Hv.out]; rfl, Hb0.out⟩
  rw [h3] at Hv
  cases h4 : (a.p.key.toList == b.p.key.toList)
  · rw [h4] at Hv
    go_enter Tryz.func45, Tryz.ntmps45
    go_wp2_with fail
    rw [Hw0.out]
    go_ret
    exact ⟨by rw [Hv.out]; rfl, Hb0.out⟩
  rw [h4] at Hv
  cases h5 : (a.p.tk == b.p.tk)
  · rw [h5] at Hv
    go_enter Tryz.func45, Tryz.ntmps45
    go_wp2_with fail
    rw [Hw0.out]
    go_ret
    exact ⟨by rw [Hv.out]; rfl, Hb0.out⟩
  rw [h5] at Hv
  cases h6 : (a.p.tm == b.p.tm)
  · rw [h6] at Hv
    go_enter Tryz.func45, Tryz.ntmps45
    go_wp2_with fail
    rw [Hw0.out]
    go_ret
    exact ⟨by rw [Hv.out]; rfl, Hb0.out⟩
  rw [h6] at Hv
  cases h7 : (a.p.nl == b.p.nl)
  · rw [h7] at Hv
    go_enter Tryz.func45, Tryz.ntmps45
    go_wp2_with fail
    rw [Hw0.out]
    go_ret
    exact ⟨by rw [Hv.out]; rfl, Hb0.out⟩
  rw [h7] at Hv
  cases h8 : (a.p.dk == b.p.dk)
  · rw [h8] at Hv
    go_enter Tryz.func45, Tryz.ntmps45
    go_wp2_with fail
    rw [Hw0.out]
    go_ret
    exact ⟨by rw [Hv.out]; rfl, Hb0.out⟩
  rw [h8] at Hv
  cases h9 : (a.p.dn == b.p.dn)
  · rw [h9] at Hv
    go_enter Tryz.func45, Tryz.ntmps45
    go_wp2_with fail
    rw [Hw0.out]
    go_ret
    exact ⟨by rw [Hv.out]; rfl, Hb0.out⟩
  rw [h9] at Hv
  cases h10 : (a.p.ds.toList == b.p.ds.toList)
  · rw [h10] at Hv
    go_enter Tryz.func45, Tryz.ntmps45
    go_wp2_with fail
    rw [Hw0.out]
    go_ret
    exact ⟨by rw [Hv.out]; rfl, Hb0.out⟩
  rw [h10] at Hv
  go_enter Tryz.func45, Tryz.ntmps45
  go_wp2_with fail
  refine HEq.out.mono ?_
  rintro e w1 ⟨rfl, hb1⟩
  rw [Hw0.out] at hb1
  have Hb1 := Lib.hid (bthen Hb0.out hb1); clear hb1
  go_wp2_with fail
  go_ret
  exact ⟨by rw [Hv.out]; rfl, Hb1.out⟩
end Go.Proofs.YthmjgaekcghonaaGreatDoor

/-
  When two changes are alike; what a change of its kind keeps of another one (layer 9).
-/
namespace Go.Proofs.YthmjgaekcghonaaGreatDoor
open Go.RowKit

/-- a cell's fact at every world behind -/
theorem keepP {w : World} {ad : Addr} {v : Value} (h : w.cell? ad = some v) : ∀ p : BelowBy w.heap.size w, p.x.cell? ad = some v := fun p => (p.h.cell (World.block_lt_of_cell? w ad h)).trans h
theorem toList_eqB {a b : ByteArray} : a.toList = b.toList ↔ a = b := ⟨fun h => eqS_iff.1 (beq_iff_eq.2 h), fun h => by rw [h]⟩
theorem sameD_iff (a b : Db) : sameD a b = true ↔ a.p.op = b.p.op ∧ a.p.tb = b.p.tb ∧ a.p.co = b.p.co ∧ a.p.to = b.p.to ∧ a.p.key = b.p.key ∧ a.p.tk = b.p.tk ∧ a.p.tm = b.p.tm ∧ a.p.nl = b.p.nl ∧ a.p.dk = b.p.dk ∧ a.p.dn = b.p.dn ∧ a.p.ds = b.p.ds ∧ Pair eqC a.p.cols b.p.cols := by
  unfold sameD
  simp only [Bool.and_eq_true, beq_iff_eq, toList_eqB, tf_iff]
theorem eqP_iff (a b : Pp) : eqP a b = true ↔ a.op = b.op ∧ a.tb = b.tb ∧ a.co = b.co ∧ a.to = b.to ∧ a.key = b.key ∧ a.tk = b.tk ∧ a.tm = b.tm ∧ a.nl = b.nl ∧ a.dk = b.dk ∧ a.dn = b.dn ∧ a.ds = b.ds ∧ a.n = b.n := by
  unfold eqP
  simp only [Bool.and_eq_true, beq_iff_eq, toList_eqB]
theorem eqP_same (a b : Db) : (eqP a.parts b.parts && tf (Pair eqC a.p.cols b.p.cols)) = sameD a b := by
  apply bool_eq
  rw [sameD_iff, Bool.and_eq_true, eqP_iff, tf_iff]
  constructor
  · rintro ⟨⟨h1, h2, h3, h4, h5, h6, h7, h8, h9, h10, h11, _⟩, h⟩
    exact ⟨h1, h2, h3, h4, h5, h6, h7, h8, h9, h10, h11, h⟩
  · rintro ⟨h1, h2, h3, h4, h5, h6, h7, h8, h9, h10, h11, h⟩
    exact ⟨⟨h1, h2, h3, h4, h5, h6, h7, h8, h9, h10, h11, by show (a.p.cols.length : Int) = b.p.cols.length; rw [h.1]⟩, h⟩
theorem sameD_self (a : Db) : sameD a a = true := (sameD_iff a a).2 ⟨rfl, rfl, rfl, rfl, rfl, rfl, rfl, rfl, rfl, rfl, rfl, tf_iff.1 (pair_self eqC_self _)⟩
theorem eqP_self (a : Db) : (eqP a.parts a.parts && tf (Pair eqC a.p.cols a.p.cols)) = true := by rw [eqP_same, sameD_self]
theorem pair_nil (l : List Cb) : Pair eqC [] l ↔ l = [] := by
  constructor
  · rintro ⟨h, _⟩
    exact List.eq_nil_of_length_eq_zero h.symm
  · rintro rfl
    exact ⟨rfl, fun j x y h _ => by simp at h⟩
theorem pair_refl (l : List Cb) : Pair eqC l l := tf_iff.1 (pair_self eqC_self l)
theorem nul_iff {k n : Int} {s : ByteArray} : nulV k n s = true ↔ k = 0 ∧ n = 0 ∧ s = ByteArray.empty := by
  unfold nulV
  simp only [Bool.and_eq_true, beq_iff_eq, toList_eqB]
theorem emp_iff {s : ByteArray} : emp s = true ↔ s = ByteArray.empty := by unfold emp; rw [eqS_iff]
theorem zTy_iff {d : Dp} : zTy d = true ↔ d.tk = 0 ∧ d.tm = 0 := by unfold zTy; simp only [Bool.and_eq_true, beq_iff_eq]
theorem zDf_iff {d : Dp} : zDf d = true ↔ d.dk = 0 ∧ d.dn = 0 ∧ d.ds = ByteArray.empty := by unfold zDf; rw [nul_iff]
theorem zCo_iff {d : Dp} : zCo d = true ↔ d.cols = [] := by unfold zCo; rw [List.isEmpty_iff]
theorem nl_iff {b : Bool} : (!b) = true ↔ b = false := by cases b <;> simp
abbrev bEmp : ByteArray := ByteArray.empty
/-- what a change of its kind has of another one -/
def keptD (d : Dp) : Dp :=
  if d.op = 1 then ⟨d.op, d.tb, bEmp, bEmp, d.key, 0, 0, false, 0, 0, bEmp, d.cols⟩
  else if d.op = 2 then ⟨d.op, d.tb, bEmp, bEmp, bEmp, 0, 0, false, 0, 0, bEmp, []⟩
  else if d.op = 3 then ⟨d.op, d.tb, bEmp, d.to, bEmp, 0, 0, false, 0, 0, bEmp, []⟩
  else if d.op = 4 then ⟨d.op, d.tb, d.co, bEmp, bEmp, d.tk, d.tm, d.nl, d.dk, d.dn, d.ds, []⟩
  else if d.op = 5 then ⟨d.op, d.tb, d.co, bEmp, bEmp, 0, 0, false, 0, 0, bEmp, []⟩
  else if d.op = 6 then ⟨d.op, d.tb, d.co, d.to, bEmp, 0, 0, false, 0, 0, bEmp, []⟩
  else if d.op = 7 then ⟨d.op, d.tb, d.co, bEmp, bEmp, d.tk, d.tm, false, 0, 0, bEmp, []⟩
  else ⟨d.op, d.tb, d.co, bEmp, bEmp, 0, 0, false, d.dk, d.dn, d.ds, []⟩
theorem kept_plain (d : Db) (x : Db) (hx : x.p = keptD d.p) (h : d.p.op = 1 ∨ d.p.op = 2 ∨ d.p.op = 3 ∨ d.p.op = 4 ∨ d.p.op = 5 ∨ d.p.op = 6 ∨ d.p.op = 7 ∨ d.p.op = 8) (h1 : d.p.op = 1 → (d.p.cols.all fun c => c.id == 0) = true) : sameD x d = plainD d.p := by
  apply bool_eq
  rw [sameD_iff, hx]
  unfold keptD plainD
  rcases h with e | e | e | e | e | e | e | e
  · have h0 := h1 e
    rw [if_pos e, if_pos e, h0]
    simp only [Bool.and_eq_true, emp_iff, zTy_iff, zDf_iff, nl_iff]
    constructor
    · rintro ⟨_, _, a, b, _, c, f, g, i, j, k, _⟩
      exact ⟨a.symm, b.symm, ⟨c.symm, f.symm⟩, g.symm, ⟨i.symm, j.symm, k.symm⟩, trivial⟩
    · rintro ⟨a, b, ⟨c, f⟩, g, ⟨i, j, k⟩, _⟩
      exact ⟨trivial, trivial, a.symm, b.symm, trivial, c.symm, f.symm, g.symm, i.symm, j.symm, k.symm, pair_refl _⟩
  all_goals
    simp only [e, if_pos, reduceIte, Int.reduceEq]
    simp only [Bool.and_eq_true, emp_iff, zTy_iff, zDf_iff, zCo_iff, nl_iff, pair_nil, true_and, and_assoc, eq_comm (a := bEmp), eq_comm (a := (0 : Int)), eq_comm (a := false)]
end Go.Proofs.YthmjgaekcghonaaGreatDoor

/-
  Plain facts for the laws of layer 9: when two catalogs are alike, sizes of a changed catalog, numbers of columns that are kept.
-/
namespace Go.Proofs.YthmjgaekcghonaaGreatDoor
open Go.RowKit

/-! ### Catalogs -/
theorem sameT_p {a b : Tb} (h : a.p = b.p) : sameT a b = true := by
  unfold Tb.p at h
  simp only [Tp.mk.injEq] at h
  obtain ⟨h1, h2, h3, h4, h5⟩ := h
  unfold sameT
  rw [h1, h2, h3, h4, h5, pair_self eqC_self, eqS_self]; simp
theorem pair_p {a b : List Tb} (h : a.map Tb.p = b.map Tb.p) : tf (Pair sameT a b) = true := by
  refine tf_yes ⟨by simpa using congrArg List.length h, fun j x y hx hy => sameT_p ?_⟩
  have h1 : (a.map Tb.p)[j]? = some x.p := by rw [List.getElem?_map, hx]; rfl
  have h2 : (b.map Tb.p)[j]? = some y.p := by rw [List.getElem?_map, hy]; rfl
  rw [h, h2] at h1
  exact (Option.some.inj h1).symm
/-- the sizes of a right catalog -/
theorem wf_right {l : List Tb} (hr : RightL (l.map Tb.p)) (hc : ∀ t ∈ l, t.cols.length ≤ t.cap) (h64 : ∀ t ∈ l, W64 t.cols) : l.length ≤ 6 ∧ ∀ t ∈ l, WfT t := by
  obtain ⟨h1, h2, _⟩ := hr
  refine ⟨by simpa using h1, fun t ht => ?_⟩
  obtain ⟨_, t2, _, _, t5, t6, _⟩ := h2 t.p (List.mem_map.2 ⟨t, ht, rfl⟩)
  have hn := (right_len t2).2
  rw [bs_length] at hn
  have hn' : t.nm.size ≤ 16 := hn
  have t5' : t.cols.length ≤ 10 := t5
  refine ⟨by omega, by omega, hc t ht, fun c hcm => ?_⟩
  have h3 := (rightC_iff c).1 (t6 c hcm).1
  have h4 := (right_len h3.2.2.1).2
  rw [bs_length] at h4
  exact ⟨by omega, h64 t ht c hcm⟩
theorem w64_of {l : List Tb} {m : List Tp} (h : l.map Tb.p = m) (hm : ∀ t ∈ m, W64 t.cols) : ∀ t ∈ l, W64 t.cols := fun t ht => hm t.p (by rw [← h]; exact List.mem_map.2 ⟨t, ht, rfl⟩)
theorem w64_to {l : List Tb} (h : ∀ t ∈ l, WfT t) : ∀ t ∈ l.map Tb.p, W64 t.cols := fun t ht => by
  obtain ⟨x, hx, rfl⟩ := List.mem_map.1 ht
  exact fun c hc => ((h x hx).2.2.2 c hc).2
/-- the sizes of what a change makes -/
theorem wf_apply {L : List Tp} {d : Dp} {id : Int} {w : World} {A : Option Addr} {cap : Nat} {l : List Tb} (h64 : ∀ t ∈ L, W64 t.cols) (hd : WfD d) (hc : CatAt w A cap l) (h : l.map Tb.p = applyO L d id) : l.length ≤ 6 ∧ (∀ t ∈ l, WfT t) ∧ l.length ≤ cap := by
  by_cases e : applyE L d id = 0
  · unfold applyO at h
    rw [if_pos e] at h
    have hw := apply_w64 h64 hd.2.2.2.2.2.1 (fun c hcm => (hd.2.2.2.2.2.2 c hcm).2) e
    have hr := apply_right h64 e
    rw [← h] at hr
    have := wf_right hr hc.2.2 (w64_of h hw)
    exact ⟨this.1, this.2, hc.2.1⟩
  · unfold applyO at h
    rw [if_neg e] at h
    obtain rfl : l = [] := by simpa using h
    exact ⟨by simp, by simp, by simp⟩
theorem right_of_apply {L : List Tp} {d : Dp} {id : Int} {l : List Tb} (h64 : ∀ t ∈ L, W64 t.cols) (h : l.map Tb.p = applyO L d id) (e : applyE L d id = 0) : rightCat l = true := by
  rw [rightL_iff, h]
  unfold applyO
  rw [if_pos e]
  exact apply_right h64 e
theorem w64_apply {L : List Tp} {d : Dp} {id : Int} (h64 : ∀ t ∈ L, W64 t.cols) (hd : WfD d) (e : applyE L d id = 0) : ∀ t ∈ applyR L d id, W64 t.cols := apply_w64 h64 hd.2.2.2.2.2.1 (fun c hcm => (hd.2.2.2.2.2.2 c hcm).2) e
/-! ### Columns by their numbers -/
theorem colN_some {t : Tb} {id : Int} {k : Nat} (h : colN t id = some k) : ∃ c, t.cols[k]? = some c ∧ c.id = id ∧ colNm t id = c.nm := by
  obtain ⟨y, h1, h2, _⟩ := find_some h
  refine ⟨y, h1, by simpa using h2, ?_⟩
  unfold colNm
  rw [h]
  simp only []
  rw [h1]
theorem colN_mem {t : Tb} {id : Int} {c : Cb} (hc : c ∈ t.cols) (h : c.id = id) : (colN t id).isSome = true := by
  unfold colN
  cases hf : t.cols.findIdx? fun c => c.id == id with
  | some k => rfl
  | none =>
    rw [List.findIdx?_eq_none_iff] at hf
    have := hf c hc
    rw [h] at this; simp at this
/-- of a right table the column of a number is the one -/
theorem colN_one {t : Tb} {id : Int} {c : Cb} (hr : RightT t.p) (hc : c ∈ t.cols) (h : c.id = id) : colNm t id = c.nm := by
  have hs := colN_mem hc h
  cases hk : colN t id with
  | none => rw [hk] at hs; cases hs
  | some k =>
    obtain ⟨y, h1, h2, h3⟩ := colN_some hk
    rw [h3]
    have hp : t.cols.Pairwise (Apart Cb.id Cb.nm) := hr.2.2.2.2.2.2.1
    obtain ⟨i, hi⟩ := List.mem_iff_getElem?.1 hc
    obtain ⟨l1, e1⟩ := List.getElem?_eq_some_iff.1 hi
    obtain ⟨l2, e2⟩ := List.getElem?_eq_some_iff.1 h1
    rw [List.pairwise_iff_getElem] at hp
    rcases Nat.lt_trichotomy i k with q | q | q
    · have := (hp i k l1 l2 q).1
      rw [e1, e2] at this; omega
    · subst q
      rw [e1] at e2; rw [e2]
    · have := (hp k i l2 l1 q).1
      rw [e1, e2] at this; omega
/-- what the law asks of a number of a column -/
theorem keeps_col {L : List Tp} {d : Dp} {i : Int} {t u : Tb} {id : Int} (h : applyE L d i = 0) (hL : RightL L) (ht : t.p ∈ L) (hu : u.p ∈ applyR L d i) (hid : u.id = t.id) (hlt : id < t.nx) (his : (colN u id).isSome = true) :
    (colN t id).isSome = true ∧ (d.op ≠ 6 → colNm t id = colNm u id) := by
  obtain ⟨_, _, h3⟩ := apply_keeps h ht hu hid
  cases hk : colN u id with
  | none => rw [hk] at his; cases his
  | some k =>
    obtain ⟨c, h4, h5, h6⟩ := colN_some hk
    obtain ⟨c', h7, h8, h9⟩ := h3 c (List.mem_of_getElem? h4) (by show c.id < t.nx; omega)
    refine ⟨colN_mem h7 (by omega), fun ho => ?_⟩
    rw [h6, colN_one (hL.2.1 t.p ht) h7 (by omega), h9 ho]
theorem keeps_tab {L : List Tp} {d : Dp} {i : Int} {t u : Tb} (h : applyE L d i = 0) (ht : t.p ∈ L) (hu : u.p ∈ applyR L d i) (hid : u.id = t.id) : t.nx ≤ u.nx ∧ u.key = t.key := by
  obtain ⟨h1, h2, _⟩ := apply_keeps h ht hu hid
  exact ⟨h1, h2⟩
end Go.Proofs.YthmjgaekcghonaaGreatDoor

/-
  Plain facts for the document's own Apply of layer 9: a table put among tables, taken table by table.
-/
namespace Go.Proofs.YthmjgaekcghonaaGreatDoor

theorem insT_lt {u : Tp} : ∀ {l : List Tp}, (∀ t ∈ l, t.id < u.id) → insT u l = l ++ [u]
  | [], _ => rfl
  | x :: r, h => by
    unfold insT
    rw [if_neg (by have := h x List.mem_cons_self; omega), insT_lt fun t ht => h t (List.mem_cons_of_mem _ ht)]
    rfl
theorem insT_gt {u x : Tp} (hx : u.id < x.id) : ∀ {l : List Tp}, (∀ t ∈ l, t.id < u.id) → insT u (l ++ [x]) = l ++ [u] ++ [x]
  | [], _ => by simp [insT, hx]
  | y :: r, h => by
    show insT u (y :: (r ++ [x])) = _
    unfold insT
    rw [if_neg (by have := h y List.mem_cons_self; omega), insT_gt hx fun t ht => h t (List.mem_cons_of_mem _ ht)]
    simp
theorem insT_ins {u x : Tp} : ∀ {l : List Tp}, (∃ t ∈ l, u.id < t.id) → insT u (l ++ [x]) = insT u l ++ [x]
  | [], ⟨t, ht, _⟩ => by simp at ht
  | y :: r, ⟨t, ht, h⟩ => by
    show insT u (y :: (r ++ [x])) = _
    unfold insT
    by_cases hy : u.id < y.id
    · rw [if_pos hy, if_pos hy]; simp
    · rw [if_neg hy, if_neg hy]
      have hr : ∃ t ∈ r, u.id < t.id := by
        rcases List.mem_cons.1 ht with rfl | ht
        · exact absurd h hy
        · exact ⟨t, ht, h⟩
      rw [insT_ins hr]; simp
theorem take_snocT {l : List Tp} {k : Nat} {c : Tp} (h : l[k]? = some c) : l.take (k + 1) = l.take k ++ [c] := by
  rw [List.take_add_one, h]; rfl
/-- how far a table is put: the first i tables are done -/
def InsAt (L : List Tp) (u : Tp) (i : Nat) (m : List Tp) : Prop := ((∀ t ∈ L.take i, t.id < u.id) ∧ m = L.take i) ∨ (∃ y, 0 < i ∧ L[i - 1]? = some y ∧ u.id < y.id ∧ m = insT u (L.take i))
theorem InsAt.zero (L : List Tp) (u : Tp) : InsAt L u 0 [] := .inl ⟨by simp, by simp⟩
theorem InsAt.low {L : List Tp} {u x : Tp} {i : Nat} {m : List Tp} (h : InsAt L u i m) (hp : L.Pairwise (Apart Tp.id Tp.nm)) (hx : L[i]? = some x) (hlt : x.id < u.id) : (∀ t ∈ L.take i, t.id < u.id) ∧ InsAt L u (i + 1) (m ++ [x]) := by
  rcases h with ⟨h1, h2⟩ | ⟨y, h0, hy, hyu, h2⟩
  · refine ⟨h1, .inl ⟨fun t ht => ?_, by rw [take_snocT hx, h2]⟩⟩
    rw [take_snocT hx] at ht
    rcases List.mem_append.1 ht with q | q
    · exact h1 t q
    · obtain rfl : t = x := by simpa using q
      exact hlt
  · rw [List.pairwise_iff_getElem] at hp
    obtain ⟨l1, e1⟩ := List.getElem?_eq_some_iff.1 hy
    obtain ⟨l2, e2⟩ := List.getElem?_eq_some_iff.1 hx
    have := (hp (i - 1) i l1 l2 (by omega)).1
    rw [e1, e2] at this
    omega
/-- the table is put here -/
theorem InsAt.here {L : List Tp} {u x : Tp} {i : Nat} {m : List Tp} (h1 : ∀ t ∈ L.take i, t.id < u.id) (h : InsAt L u i m) (hx : L[i]? = some x) (hgt : u.id < x.id) : InsAt L u (i + 1) (m ++ [u] ++ [x]) := by
  rcases h with ⟨_, h2⟩ | ⟨y, h0, hy, hyu, h2⟩
  · exact .inr ⟨x, by omega, by simpa using hx, hgt, by rw [take_snocT hx, insT_gt hgt h1, h2]⟩
  · have hym : y ∈ L.take i := List.mem_of_getElem? (i := i - 1) (by rw [List.getElem?_take, if_pos (by omega)]; exact hy)
    have := h1 y hym
    omega
/-- the table is there already -/
theorem InsAt.past {L : List Tp} {u x y : Tp} {i : Nat} {m : List Tp} (h : InsAt L u i m) (hp : L.Pairwise (Apart Tp.id Tp.nm)) (hx : L[i]? = some x) (h0 : 0 < i) (hy : L[i - 1]? = some y) (hyu : u.id < y.id) : InsAt L u (i + 1) (m ++ [x]) := by
  have hym : y ∈ L.take i := List.mem_of_getElem? (i := i - 1) (by rw [List.getElem?_take, if_pos (by omega)]; exact hy)
  rcases h with ⟨h1, _⟩ | ⟨_, _, _, _, h2⟩
  · have := h1 y hym
    omega
  · rw [List.pairwise_iff_getElem] at hp
    obtain ⟨l1, e1⟩ := List.getElem?_eq_some_iff.1 hy
    obtain ⟨l2, e2⟩ := List.getElem?_eq_some_iff.1 hx
    have := (hp (i - 1) i l1 l2 (by omega)).1
    rw [e1, e2] at this
    exact .inr ⟨x, by omega, by simpa using hx, by omega, by rw [take_snocT hx, insT_ins ⟨y, hym, hyu⟩, h2]⟩
theorem InsAt.end_in {L : List Tp} {u : Tp} {m : List Tp} (h : InsAt L u L.length m) (hl : ∀ t ∈ L, t.id < u.id) : m ++ [u] = insT u L := by
  rcases h with ⟨_, h2⟩ | ⟨y, h0, hy, hyu, h2⟩
  · rw [insT_lt hl, h2, List.take_length]
  · have := hl y (List.mem_of_getElem? hy)
    omega
theorem InsAt.end_past {L : List Tp} {u y : Tp} {m : List Tp} (h : InsAt L u L.length m) (hy : y ∈ L) (hyu : u.id < y.id) : m = insT u L := by
  rcases h with ⟨h1, _⟩ | ⟨_, _, _, _, h2⟩
  · have := h1 y (by rw [List.take_length]; exact hy)
    omega
  · rw [h2, List.take_length]
/-- the changed tables, the first i done -/
def chgAt (L : List Tp) (k : Nat) (o : Option Tp) (i : Nat) : List Tp := match o with
  | none => (L.take i).eraseIdx k
  | some v => (L.take i).set k v
theorem chg_other {L : List Tp} {k : Nat} {o : Option Tp} {i : Nat} {x : Tp} (hx : L[i]? = some x) (hk : i ≠ k) : chgAt L k o (i + 1) = chgAt L k o i ++ [x] := by
  have hl : (L.take i).length = i := by rw [List.length_take]; have := (List.getElem?_eq_some_iff.1 hx).1; omega
  unfold chgAt
  rw [take_snocT hx]
  cases o with
  | none =>
    by_cases h : k < i
    · exact List.eraseIdx_append_of_lt_length (by omega) _
    · rw [List.eraseIdx_of_length_le (by simp; omega), List.eraseIdx_of_length_le (by omega)]
  | some v =>
    by_cases h : k < i
    · exact List.set_append_left _ _ (by omega)
    · show (L.take i ++ [x]).set k v = (L.take i).set k v ++ [x]
      rw [List.set_eq_of_length_le (by simp; omega), List.set_eq_of_length_le (by omega)]
theorem chg_none {L : List Tp} {k : Nat} {x : Tp} (hx : L[k]? = some x) : chgAt L k none (k + 1) = chgAt L k none k := by
  have hl : (L.take k).length = k := by rw [List.length_take]; have := (List.getElem?_eq_some_iff.1 hx).1; omega
  unfold chgAt
  rw [take_snocT hx]
  show (L.take k ++ [x]).eraseIdx k = (L.take k).eraseIdx k
  rw [List.eraseIdx_append_of_length_le (by omega), hl, Nat.sub_self, List.eraseIdx_of_length_le (l := L.take k) (by omega)]
  simp
theorem chg_some {L : List Tp} {k : Nat} {x v : Tp} (hx : L[k]? = some x) : chgAt L k (some v) (k + 1) = chgAt L k (some v) k ++ [v] := by
  have hl : (L.take k).length = k := by rw [List.length_take]; have := (List.getElem?_eq_some_iff.1 hx).1; omega
  unfold chgAt
  rw [take_snocT hx]
  show (L.take k ++ [x]).set k v = (L.take k).set k v ++ [v]
  rw [List.set_append_right _ _ (by omega), hl, Nat.sub_self, List.set_eq_of_length_le (l := L.take k) (by omega)]
  rfl
end Go.Proofs.YthmjgaekcghonaaGreatDoor

/-
  The contract of the document's own Wide.
-/
namespace Go.Proofs.YthmjgaekcghonaaGreatDoor
open Go.RowKit

set_option maxRecDepth 100000 in
set_option maxHeartbeats 1600000 in
theorem trwide_yes (k m k2 m2 : Int) (w : World) (HR1 : Hid (∀ w, Calls Tryz.prog 48 #[TT k m] w fun e w' => e = .returned (.bool true) ∧ Below w.heap.size w w'))
    (HR2 : Hid (∀ w, Calls Tryz.prog 48 #[TT k2 m2] w fun e w' => e = .returned (.bool true) ∧ Below w.heap.size w w')) :
    Calls Tryz.prog 52 #[TT k m, TT k2 m2] w fun e w' => e = .returned (.bool (rwideT k m k2 m2)) ∧ Below w.heap.size w w' := by
  have Hv : Hid (rwideT k m k2 m2 = bif k2 == 1 then (decide (k ≤ 2) || decide (11 ≤ m)) else bif k2 == 2 then ((k == 2) || (decide (2 < k) && decide (20 ≤ m))) else bif k2 == 3 then (decide (3 ≤ k) && decide (m2 ≤ m)) else ((k == 4) && decide (m2 ≤ m))) := rfl
  generalize h1 : (k2 == 1) = b1 at Hv
  generalize h2 : (k2 == 2) = b2 at Hv
  generalize h3 : (k2 == 3) = b3 at Hv
  generalize h4 : decide (k ≤ 2) = b4 at Hv
  generalize h5 : decide (11 ≤ m) = b5 at Hv
  generalize h6 : (k == 2) = b6 at Hv
  generalize h7 : decide (2 < k) = b7 at Hv
  generalize h8 : decide (20 ≤ m) = b8 at Hv
  generalize h9 : decide (3 ≤ k) = b9 at Hv
  generalize h10 : decide (m2 ≤ m) = b10 at Hv
  generalize h11 : (k == 4) = b11 at Hv
  cases b1
  · cases b2
    · cases b3
      · clear h4 h5 h6 h7 h8 h9
        cases b11
        all_goals
          go_enter Tryz.func52, Tryz.ntmps52
          go_wp2_with fail
          refine (HR1.out _).mono ?_
          rintro e w1 ⟨rfl, hb1⟩
          have HB := Lib.hid ((Bx.new w _ _ _ _ _ _).step hb1)
          obtain ⟨⟨c0, c1, _⟩, ⟨d0, d1, _⟩, _⟩ := HB.out
          clear hb1
          go_wp2_with fail
          refine (HR2.out _).mono ?_
          rintro e w2 ⟨rfl, hb2⟩
          have HB2 := Lib.hid (HB.out.step hb2)
          clear hb2 c0 c1 d0 d1
          obtain ⟨⟨c0, c1, _⟩, ⟨d0, d1, _⟩, _⟩ := HB2.out
          go_wp2_with fail
          go_ret
          exact ⟨by rw [Hv.out]; rfl, HB2.out.2.2.2⟩
      · clear h4 h5 h6 h7 h8 h11
        cases b9
        all_goals
          go_enter Tryz.func52, Tryz.ntmps52
          go_wp2_with fail
          refine (HR1.out _).mono ?_
          rintro e w1 ⟨rfl, hb1⟩
          have HB := Lib.hid ((Bx.new w _ _ _ _ _ _).step hb1)
          obtain ⟨⟨c0, c1, _⟩, ⟨d0, d1, _⟩, _⟩ := HB.out
          clear hb1
          go_wp2_with fail
          refine (HR2.out _).mono ?_
          rintro e w2 ⟨rfl, hb2⟩
          have HB2 := Lib.hid (HB.out.step hb2)
          clear hb2 c0 c1 d0 d1
          obtain ⟨⟨c0, c1, _⟩, ⟨d0, d1, _⟩, _⟩ := HB2.out
          go_wp2_with fail
          go_ret
          exact ⟨by rw [Hv.out]; rfl, HB2.out.2.2.2⟩
    · clear h3 h4 h5 h9 h10 h11
      cases b6 <;> cases b7
      all_goals
        go_enter Tryz.func52, Tryz.ntmps52
        go_wp2_with fail
        refine (HR1.out _).mono ?_
        rintro e w1 ⟨rfl, hb1⟩
        have HB := Lib.hid ((Bx.new w _ _ _ _ _ _).step hb1)
        obtain ⟨⟨c0, c1, _⟩, ⟨d0, d1, _⟩, _⟩ := HB.out
        clear hb1
        go_wp2_with fail
        refine (HR2.out _).mono ?_
        rintro e w2 ⟨rfl, hb2⟩
        have HB2 := Lib.hid (HB.out.step hb2)
        clear hb2 c0 c1 d0 d1
        obtain ⟨⟨c0, c1, _⟩, ⟨d0, d1, _⟩, _⟩ := HB2.out
        go_wp2_with fail
        go_ret
        exact ⟨by rw [Hv.out]; rfl, HB2.out.2.2.2⟩
  · clear h2 h3 h6 h7 h8 h9 h10 h11
    cases b4
    all_goals
      go_enter Tryz.func52, Tryz.ntmps52
      go_wp2_with fail
      refine (HR1.out _).mono ?_
      rintro e w1 ⟨rfl, hb1⟩
      have HB := Lib.hid ((Bx.new w _ _ _ _ _ _).step hb1)
      obtain ⟨⟨c0, c1, _⟩, ⟨d0, d1, _⟩, _⟩ := HB.out
      clear hb1
      go_wp2_with fail
      refine (HR2.out _).mono ?_
      rintro e w2 ⟨rfl, hb2⟩
      have HB2 := Lib.hid (HB.out.step hb2)
      clear hb2 c0 c1 d0 d1
      obtain ⟨⟨c0, c1, _⟩, ⟨d0, d1, _⟩, _⟩ := HB2.out
      go_wp2_with fail
      go_ret
      exact ⟨by rw [Hv.out]; rfl, HB2.out.2.2.2⟩
set_option maxRecDepth 100000 in
set_option maxHeartbeats 1600000 in
theorem trwide_any (k m k2 m2 : Int) (w : World) : Calls Tryz.prog 52 #[TT k m, TT k2 m2] w fun e w' => e = .returned (.bool (wideT k m k2 m2)) ∧ Below w.heap.size w w' := by
  have HR1 := Lib.hid (fun w => trright_any k m w)
  have HR2 := Lib.hid (fun w => trright_any k2 m2 w)
  cases ha : rightT k m
  · have Hv : Hid (wideT k m k2 m2 = false) := by show _ = _; unfold wideT; rw [ha]; rfl
    rw [ha] at HR1
    go_enter Tryz.func52, Tryz.ntmps52
    go_wp2_with fail
    refine (HR1.out _).mono ?_
    rintro e w1 ⟨rfl, hb1⟩
    have HB := Lib.hid ((Bx.new w _ _ _ _ _ _).step hb1)
    clear hb1
    go_wp2_with fail
    go_ret
    exact ⟨by rw [Hv.out]; rfl, HB.out.2.2.2⟩
  cases hb : rightT k2 m2
  · have Hv : Hid (wideT k m k2 m2 = false) := by show _ = _; unfold wideT; rw [ha, hb]; rfl
    rw [ha] at HR1
    rw [hb] at HR2
    go_enter Tryz.func52, Tryz.ntmps52
    go_wp2_with fail
    refine (HR1.out _).mono ?_
    rintro e w1 ⟨rfl, hb1⟩
    have HB := Lib.hid ((Bx.new w _ _ _ _ _ _).step hb1)
    obtain ⟨⟨c0, c1, _⟩, ⟨d0, d1, _⟩, _⟩ := HB.out
    clear hb1
    go_wp2_with fail
    refine (HR2.out _).mono ?_
    rintro e w2 ⟨rfl, hb2⟩
    have HB2 := Lib.hid (HB.out.step hb2)
    clear hb2 c0 c1 d0 d1
    go_wp2_with fail
    go_ret
    exact ⟨by rw [Hv.out]; rfl, HB2.out.2.2.2⟩
  · rw [ha] at HR1
    rw [hb] at HR2
    rw [← rwideT_eq k m k2 m2 ha hb]
    exact trwide_yes k m k2 m2 w HR1 HR2
end Go.Proofs.YthmjgaekcghonaaGreatDoor

/-
  Contracts of the document's own preset, add and wrong of layer 9.
-/
namespace Go.Proofs.YthmjgaekcghonaaGreatDoor
open Go.RowKit

theorem idx_ge (o : Option Nat) : decide ((0 : Int) ≤ idxI o) = o.isSome := by
  cases o with
  | none => rfl
  | some k => show decide ((0 : Int) ≤ (k : Int)) = true; simp
theorem idx_lt (o : Option Nat) : decide (idxI o < (0 : Int)) = !o.isSome := by
  cases o with
  | none => rfl
  | some k =>
    show decide ((k : Int) < (0 : Int)) = false
    rw [decide_eq_false_iff_not]; omega
theorem rcol_z (t : Tb) (s : ByteArray) (hl : t.cols.length ≤ 1000000) : ∃ z : Int, (∀ w, TabAt w w.heap.size t → Calls Tryz.prog 50 #[TV t, .string s] w fun e w' => e = .returned (.int .i64 z) ∧ Below w.heap.size w w') ∧ decide ((0 : Int) ≤ z) = (colP t.cols s).isSome ∧ decide (z < (0 : Int)) = !(colP t.cols s).isSome ∧ ∀ k, colP t.cols s = some k → z = (k : Int) :=
  ⟨_, fun w h => rcolI_any t s w h hl, idx_ge _, idx_lt _, fun k hk => by show idxI (colP t.cols s) = _; rw [hk]; rfl⟩
theorem map_find (l : List Tb) (s : ByteArray) : (l.findIdx? fun x => eqS x.nm s) = findT (l.map Tb.p) s := by
  unfold findT
  rw [List.findIdx?_map]
  rfl
theorem map_findId (l : List Tb) (id : Int) : (l.findIdx? fun x => x.id == id) = (l.map Tb.p).findIdx? fun x => x.id == id := by
  rw [List.findIdx?_map]
  rfl
theorem rfind_z (A : Option Addr) (cp : Nat) (l : List Tb) (s : ByteArray) (hl : l.length ≤ 1000000) : ∃ z : Int, (∀ w, TabsAt w w.heap.size A l → Calls Tryz.prog 24 #[.agg #[.slice A l.length cp], .string s] w fun e w' => e = .returned (.int .i64 z) ∧ Below w.heap.size w w') ∧ decide ((0 : Int) ≤ z) = (findT (l.map Tb.p) s).isSome ∧ decide (z < (0 : Int)) = !(findT (l.map Tb.p) s).isSome ∧ ∀ k, findT (l.map Tb.p) s = some k → z = (k : Int) :=
  ⟨_, fun w h => rfind_any A cp l s w h hl, by rw [idx_ge, map_find], by rw [idx_lt, map_find], fun k hk => by rw [map_find, hk]; rfl⟩
theorem rbyid_z (A : Option Addr) (cp : Nat) (l : List Tb) (id : Int) (hl : l.length ≤ 1000000) : ∃ z : Int, (∀ w, TabsAt w w.heap.size A l → Calls Tryz.prog 47 #[.agg #[.slice A l.length cp], .int .i64 id] w fun e w' => e = .returned (.int .i64 z) ∧ Below w.heap.size w w') ∧ decide ((0 : Int) ≤ z) = ((l.map Tb.p).findIdx? fun x => x.id == id).isSome :=
  ⟨_, fun w h => rbyId_any A cp l id w h hl, by rw [idx_ge, map_findId]⟩
theorem box_td (w : World) (t : Tb) (d : Db) : ∃ w0, (w.alloc (.cells #[.int .i64 t.id, .string t.nm, .int .i64 t.key, .int .i64 t.nx, .slice t.A t.cols.length t.cap] 51)).alloc (.cells #[.int .i64 d.p.op, .string d.p.tb, .string d.p.co, .string d.p.to, .string d.p.key, .int .i64 d.p.tk, .int .i64 d.p.tm, .bool d.p.nl, .int .i64 d.p.dk, .int .i64 d.p.dn, .string d.p.ds, .slice d.A d.p.cols.length d.cap] 31) = w0 ∧
    Below w.heap.size w w0 ∧ BlkN w0 w.heap.size (fT t) ∧ BlkN w0 (w.heap.size + 1) (fD d) ∧ w0.heap.size = w.heap.size + 2 :=
  ⟨_, rfl, below_two w _ _, (BlkN.new w _ (fT t) _ rfl).alloc (by simp) _, BlkN.new _ _ (fD d) _ (by simp), by simp⟩
set_option maxRecDepth 100000 in
set_option maxHeartbeats 1000000 in
theorem rpreset_any (tk tm k n : Int) (s : ByteArray) (w : World) (h1 : -9223372036854775808 ≤ n) (h2 : n < 9223372036854775808) : Calls Tryz.prog 49 #[TT tk tm, VV k n s] w fun e w' => e = .returned (.bool (presetD tk tm k n s)) ∧ Below w.heap.size w w' := by
  have Hv : Hid (presetD tk tm k n s = (nulV k n s || fitT tk tm k n s)) := rfl
  have q : ∀ w, (binOp .eql 28 (VV k n s) (VV 0 0 ⟨#[]⟩)).run Tryz.prog w = .ok (.bool (nulV k n s)) w := fun w => run_eql_V w k n 0 0 s ⟨#[]⟩
  have HF := Lib.hid (fun w => trfits_any tk tm k n s w h1 h2)
  clear h1 h2
  generalize nulV k n s = b1 at Hv q
  generalize fitT tk tm k n s = b2 at Hv HF
  cases b1
  · go_enter Tryz.func49, Tryz.ntmps49
    go_wp2_with fail
    refine (HF.out _).mono ?_
    rintro e w2 ⟨rfl, hb2⟩
    have Hb2 : Hid (Below w.heap.size w w2) := bthen (by go_grown) hb2
    clear hb2
    go_wp2_with fail
    go_ret
    exact ⟨by rw [Hv.out]; rfl, Hb2.out⟩
  · go_enter Tryz.func49, Tryz.ntmps49
    go_wp2_with fail
    go_ret
    exact ⟨by rw [Hv.out]; rfl, by go_grown⟩
set_option maxRecDepth 100000 in
set_option maxHeartbeats 3000000 in
theorem radd_any (t : Tb) (d : Db) (w : World) (hA : TabAt w w.heap.size t) (hl : t.cols.length ≤ 1000000) (hd : WfD d.p) :
    Calls Tryz.prog 51 #[TV t, DV d] w fun e w' => e = .returned (.int .i64 (addE t.p d.p)) ∧ Below w.heap.size w w' := by
  obtain ⟨w0, hw0, hb0, hT, hX, hs0⟩ := box_td w t d
  have Hw0 := Lib.hid hw0; clear hw0
  have HbW := Lib.hid hb0
  have HT := Lib.hid hT; clear hT
  have HX := Lib.hid hX; clear hX
  have Hs0 := Lib.hid hs0; clear hs0
  have HA := Lib.hid (RowAt.to hA hb0); clear hA hb0
  have HN := Lib.hid (fun w => nrright_any d.p.co w hd.2.1)
  obtain ⟨z, hCz, hz, _, _⟩ := rcol_z t d.p.co hl
  have HC := Lib.hid hCz; clear hCz
  have HR := Lib.hid (fun w => trright_any d.p.tk d.p.tm w)
  have HP := Lib.hid (fun w => rpreset_any d.p.tk d.p.tm d.p.dk d.p.dn d.p.ds w hd.2.2.2.2.2.1.1 hd.2.2.2.2.2.1.2)
  have q : ∀ w, (binOp .eql 28 (VV d.p.dk d.p.dn d.p.ds) (VV 0 0 ⟨#[]⟩)).run Tryz.prog w = .ok (.bool (nulV d.p.dk d.p.dn d.p.ds)) w := fun w => run_eql_V w d.p.dk d.p.dn 0 0 d.p.ds ⟨#[]⟩
  have Hv : Hid (addE t.p d.p = if (10 ≤ t.cols.length ∨ 200 ≤ t.nx) then 3 else if rightN (bs d.p.co) = true then if (colP t.cols d.p.co).isSome = true then 14 else if rightT d.p.tk d.p.tm = true then
      if presetD d.p.tk d.p.tm d.p.dk d.p.dn d.p.ds = true then (if d.p.nl = false ∧ nulV d.p.dk d.p.dn d.p.ds = true then 11 else 0) else 10
    else 9
  else 8) := rfl
  clear hd
  generalize addE t.p d.p = E at Hv ⊢
  generalize rightN (bs d.p.co) = b1 at Hv HN
  generalize (colP t.cols d.p.co).isSome = b2 at Hv hz
  generalize rightT d.p.tk d.p.tm = b3 at Hv HR
  generalize presetD d.p.tk d.p.tm d.p.dk d.p.dn d.p.ds = b4 at Hv HP
  generalize nulV d.p.dk d.p.dn d.p.ds = b5 at Hv q
  try clear t0 t1 t2 t3 t4
  obtain ⟨t0, t1, t2, t3, t4⟩ := HT.out.tab
  try clear x0 x1 x2 x3 x4 x5 x6 x7 x8 x9 x10 x11
  obtain ⟨x0, x1, x2, x3, x4, x5, x6, x7, x8, x9, x10, x11⟩ := HX.out.ddl
  by_cases h10 : 10 ≤ t.cols.length
  · rw [if_pos (.inl h10)] at Hv
    have g1 : decide (10 ≤ (t.cols.length : Int)) = true := by simp; omega
    clear h10
    go_enter Tryz.func51, Tryz.ntmps51
    go_wp2_with fail
    try rw [Hw0.out]
    go_ret
    exact ⟨by rw [Hv.out]; rfl, HbW.out⟩
  have g1 : decide (10 ≤ (t.cols.length : Int)) = false := by simp; omega
  by_cases h200 : 200 ≤ t.nx
  · rw [if_pos (.inr h200)] at Hv
    have g2 : decide (200 ≤ t.nx) = true := by simp; omega
    clear h10 h200
    go_enter Tryz.func51, Tryz.ntmps51
    go_wp2_with fail
    try rw [Hw0.out]
    go_ret
    exact ⟨by rw [Hv.out]; rfl, HbW.out⟩
  rw [if_neg (by rintro (e | e); exact h10 e; exact h200 e)] at Hv
  have g2 : decide (200 ≤ t.nx) = false := by simp; omega
  clear h10 h200
  go_enter Tryz.func51, Tryz.ntmps51
  go_wp2_with fail
  try rw [Hw0.out]
  refine ((below_of_same (HN.out _))).mono ?_
  rintro e w1 ⟨rfl, hb⟩
  have Hb1 := Lib.hid hb
  clear hb
  try clear t0 t1 t2 t3 t4
  obtain ⟨t0, t1, t2, t3, t4⟩ := (HT.out.below Hb1.out (by have := Hs0.out; omega)).tab
  try clear x0 x1 x2 x3 x4 x5 x6 x7 x8 x9 x10 x11
  obtain ⟨x0, x1, x2, x3, x4, x5, x6, x7, x8, x9, x10, x11⟩ := (HX.out.below Hb1.out (by have := Hs0.out; omega)).ddl
  cases b1
  · go_wp2_with fail
    go_ret
    exact ⟨by rw [Hv.out]; rfl, bthen HbW.out Hb1.out⟩
  go_wp2_with fail
  refine (HC.out w1 (RowAt.to HA.out Hb1.out)).mono ?_
  rintro e w2 ⟨rfl, hb⟩
  have Hb2 := Lib.hid (bthen Hb1.out hb)
  clear hb
  try clear t0 t1 t2 t3 t4
  obtain ⟨t0, t1, t2, t3, t4⟩ := (HT.out.below Hb2.out (by have := Hs0.out; omega)).tab
  try clear x0 x1 x2 x3 x4 x5 x6 x7 x8 x9 x10 x11
  obtain ⟨x0, x1, x2, x3, x4, x5, x6, x7, x8, x9, x10, x11⟩ := (HX.out.below Hb2.out (by have := Hs0.out; omega)).ddl
  cases b2
  case true =>
    go_wp2_with fail
    go_ret
    exact ⟨by rw [Hv.out]; rfl, bthen HbW.out Hb2.out⟩
  go_wp2_with fail
  refine (HR.out w2).mono ?_
  rintro e w3 ⟨rfl, hb⟩
  have Hb3 := Lib.hid (bthen Hb2.out hb)
  clear hb
  try clear t0 t1 t2 t3 t4
  obtain ⟨t0, t1, t2, t3, t4⟩ := (HT.out.below Hb3.out (by have := Hs0.out; omega)).tab
  try clear x0 x1 x2 x3 x4 x5 x6 x7 x8 x9 x10 x11
  obtain ⟨x0, x1, x2, x3, x4, x5, x6, x7, x8, x9, x10, x11⟩ := (HX.out.below Hb3.out (by have := Hs0.out; omega)).ddl
  cases b3
  · go_wp2_with fail
    go_ret
    exact ⟨by rw [Hv.out]; rfl, bthen HbW.out Hb3.out⟩
  go_wp2_with fail
  refine (HP.out w3).mono ?_
  rintro e w4 ⟨rfl, hb⟩
  have Hb4 := Lib.hid (bthen Hb3.out hb)
  clear hb
  try clear t0 t1 t2 t3 t4
  obtain ⟨t0, t1, t2, t3, t4⟩ := (HT.out.below Hb4.out (by have := Hs0.out; omega)).tab
  try clear x0 x1 x2 x3 x4 x5 x6 x7 x8 x9 x10 x11
  obtain ⟨x0, x1, x2, x3, x4, x5, x6, x7, x8, x9, x10, x11⟩ := (HX.out.below Hb4.out (by have := Hs0.out; omega)).ddl
  cases b4
  · go_wp2_with fail
    go_ret
    exact ⟨by rw [Hv.out]; rfl, bthen HbW.out Hb4.out⟩
  cases hn : d.p.nl
  · rw [hn] at Hv x7
    cases b5
    · go_wp2_with fail
      go_ret
      exact ⟨by rw [Hv.out]; rfl, bthen HbW.out Hb4.out⟩
    · go_wp2_with fail
      go_ret
      exact ⟨by rw [Hv.out]; rfl, bthen HbW.out Hb4.out⟩
  · rw [hn] at Hv x7
    go_wp2_with fail
    go_ret
    exact ⟨by rw [Hv.out]; rfl, bthen HbW.out Hb4.out⟩
end Go.Proofs.YthmjgaekcghonaaGreatDoor

/-
  Contract of the document's own wrong of layer 9.
-/
namespace Go.Proofs.YthmjgaekcghonaaGreatDoor
open Go.RowKit

theorem box_ctd (w : World) (v : Value) (t : Tb) (d : Db) : ∃ w0, ((w.alloc (.cells #[v] 24)).alloc (.cells #[.int .i64 t.id, .string t.nm, .int .i64 t.key, .int .i64 t.nx, .slice t.A t.cols.length t.cap] 51)).alloc (.cells #[.int .i64 d.p.op, .string d.p.tb, .string d.p.co, .string d.p.to, .string d.p.key, .int .i64 d.p.tk, .int .i64 d.p.tm, .bool d.p.nl, .int .i64 d.p.dk, .int .i64 d.p.dn, .string d.p.ds, .slice d.A d.p.cols.length d.cap] 31) = w0 ∧
    Below w.heap.size w w0 ∧ BlkN w0 w.heap.size [v] ∧ BlkN w0 (w.heap.size + 1) (fT t) ∧ BlkN w0 (w.heap.size + 2) (fD d) ∧ w0.heap.size = w.heap.size + 3 :=
  ⟨_, rfl, (below_two w _ _).alloc (by simp; omega) _, ((BlkN.new w _ [v] _ rfl).alloc (by simp) _).alloc (by simp; omega) _, (BlkN.new _ _ (fT t) _ (by simp)).alloc (by simp) _, BlkN.new _ _ (fD d) _ (by simp), by simp⟩
theorem colV_of {l : List Cb} {s : ByteArray} {k : Nat} {x : Cb} (h : colP l s = some k) (hx : l[k]? = some x) : colV l s = some x := by unfold colV; rw [h]; exact hx
theorem colV_no {l : List Cb} {s : ByteArray} (h : colP l s = none) : colV l s = none := by unfold colV; rw [h]; rfl
theorem wrong_none {l : List Tp} {t : Tp} {d : Dp} (ho : 5 ≤ d.op) (h : colV t.cols d.co = none) : wrongE l t d = 13 := by
  unfold wrongE
  rw [if_neg (by omega), if_neg (by omega), if_neg (by omega), h]
theorem wrong_some {l : List Tp} {t : Tp} {d : Dp} {x : Cb} (ho : 5 ≤ d.op) (h : colV t.cols d.co = some x) : wrongE l t d = if d.op = 5 ∧ x.id = t.key then 15 else if d.op = 6 ∧ rightN (bs d.to) = false then 8 else if d.op = 6 ∧ (colP t.cols d.to).isSome = true then 14
      else if d.op = 7 ∧ rightT d.tk d.tm = false then 9 else if d.op = 7 ∧ wideT d.tk d.tm x.tk x.tm = false then 16 else if d.op = 8 ∧ presetD x.tk x.tm d.dk d.dn d.ds = false then 10 else 0 := by
  unfold wrongE
  rw [if_neg (by omega), if_neg (by omega), if_neg (by omega), h]
set_option maxRecDepth 100000 in
set_option maxHeartbeats 6400000 in
theorem rwrong_any (A : Option Addr) (cp : Nat) (l : List Tb) (t : Tb) (d : Db) (w : World) (hC : TabsAt w w.heap.size A l) (hl : l.length ≤ 1000000) (hA : TabAt w w.heap.size t) (htl : t.cols.length ≤ 1000000) (hd : WfD d.p) (ho : 2 ≤ d.p.op ∧ d.p.op ≤ 8) :
    Calls Tryz.prog 25 #[.agg #[.slice A l.length cp], TV t, DV d] w fun e w' => e = .returned (.int .i64 (wrongE (l.map Tb.p) t.p d.p)) ∧ Below w.heap.size w w' := by
  obtain ⟨w0, hw0, hb0, hU, hT, hX, hs0⟩ := box_ctd w (.slice A l.length cp) t d
  have Hw0 := Lib.hid hw0; clear hw0
  have HbW := Lib.hid hb0
  have HC := Lib.hid hU; clear hU
  have HT := Lib.hid hT; clear hT
  have HX := Lib.hid hX; clear hX
  have Hs0 := Lib.hid hs0; clear hs0
  have HL := Lib.hid (hC.to hb0)
  have HA := Lib.hid (RowAt.to hA hb0); clear hA hb0 hC
  try clear c0
  have c0 := HC.out.one
  try clear t0 t1 t2 t3 t4
  obtain ⟨t0, t1, t2, t3, t4⟩ := HT.out.tab
  try clear x0 x1 x2 x3 x4 x5 x6 x7 x8 x9 x10 x11
  obtain ⟨x0, x1, x2, x3, x4, x5, x6, x7, x8, x9, x10, x11⟩ := HX.out.ddl
  by_cases e2 : d.p.op = 2
  · have Hv : Hid (wrongE (l.map Tb.p) t.p d.p = 0) := by show _ = _; unfold wrongE; rw [if_pos e2]
    have q2 : (d.p.op == 2) = true := by rw [beq_iff_eq]; omega
    have q3 : (d.p.op == 3) = false := by rw [beq_eq_false_iff_ne]; omega
    have q4 : (d.p.op == 4) = false := by rw [beq_eq_false_iff_ne]; omega
    have q5 : (d.p.op == 5) = false := by rw [beq_eq_false_iff_ne]; omega
    have q6 : (d.p.op == 6) = false := by rw [beq_eq_false_iff_ne]; omega
    have q7 : (d.p.op == 7) = false := by rw [beq_eq_false_iff_ne]; omega
    have q8 : (d.p.op == 8) = false := by rw [beq_eq_false_iff_ne]; omega
    clear e2 ho
    go_enter Tryz.func25, Tryz.ntmps25
    go_wp2_with fail
    try rw [Hw0.out]
    go_ret
    exact ⟨by rw [Hv.out]; rfl, HbW.out⟩
  by_cases e3 : d.p.op = 3
  · have Hv : Hid (wrongE (l.map Tb.p) t.p d.p = if rightN (bs d.p.to) = true then (if (findT (l.map Tb.p) d.p.to).isSome = true then 14 else 0) else 8) := by show _ = _; unfold wrongE; rw [if_neg e2, if_pos e3]
    have HN := Lib.hid (fun w => nrright_any d.p.to w hd.2.2.1)
    obtain ⟨z, hCz, hz, _, _⟩ := rfind_z A cp l d.p.to hl
    have HF := Lib.hid hCz; clear hCz
    generalize rightN (bs d.p.to) = b1 at Hv HN
    generalize (findT (l.map Tb.p) d.p.to).isSome = b2 at Hv hz
    have q2 : (d.p.op == 2) = false := by rw [beq_eq_false_iff_ne]; omega
    have q3 : (d.p.op == 3) = true := by rw [beq_iff_eq]; omega
    have q4 : (d.p.op == 4) = false := by rw [beq_eq_false_iff_ne]; omega
    have q5 : (d.p.op == 5) = false := by rw [beq_eq_false_iff_ne]; omega
    have q6 : (d.p.op == 6) = false := by rw [beq_eq_false_iff_ne]; omega
    have q7 : (d.p.op == 7) = false := by rw [beq_eq_false_iff_ne]; omega
    have q8 : (d.p.op == 8) = false := by rw [beq_eq_false_iff_ne]; omega
    clear e2 e3 ho
    go_enter Tryz.func25, Tryz.ntmps25
    go_wp2_with fail
    try rw [Hw0.out]
    refine ((below_of_same (HN.out _))).mono ?_
    rintro e w1 ⟨rfl, hb⟩
    have Hb1 := Lib.hid hb
    clear hb
    try clear c0
    have c0 := (HC.out.below Hb1.out (by have := Hs0.out; omega)).one
    try clear t0 t1 t2 t3 t4
    obtain ⟨t0, t1, t2, t3, t4⟩ := (HT.out.below Hb1.out (by have := Hs0.out; omega)).tab
    try clear x0 x1 x2 x3 x4 x5 x6 x7 x8 x9 x10 x11
    obtain ⟨x0, x1, x2, x3, x4, x5, x6, x7, x8, x9, x10, x11⟩ := (HX.out.below Hb1.out (by have := Hs0.out; omega)).ddl
    cases b1
    · go_wp2_with fail
      go_ret
      exact ⟨by rw [Hv.out]; rfl, bthen HbW.out Hb1.out⟩
    go_wp2_with fail
    refine (HF.out w1 (HL.out.to Hb1.out)).mono ?_
    rintro e w2 ⟨rfl, hb⟩
    have Hb2 := Lib.hid (bthen Hb1.out hb)
    clear hb
    try clear c0
    have c0 := (HC.out.below Hb2.out (by have := Hs0.out; omega)).one
    try clear t0 t1 t2 t3 t4
    obtain ⟨t0, t1, t2, t3, t4⟩ := (HT.out.below Hb2.out (by have := Hs0.out; omega)).tab
    try clear x0 x1 x2 x3 x4 x5 x6 x7 x8 x9 x10 x11
    obtain ⟨x0, x1, x2, x3, x4, x5, x6, x7, x8, x9, x10, x11⟩ := (HX.out.below Hb2.out (by have := Hs0.out; omega)).ddl
    cases b2
    · go_wp2_with fail
      go_ret
      exact ⟨by rw [Hv.out]; rfl, bthen HbW.out Hb2.out⟩
    · go_wp2_with fail
      go_ret
      exact ⟨by rw [Hv.out]; rfl, bthen HbW.out Hb2.out⟩
  by_cases e4 : d.p.op = 4
  · have Hv : Hid (wrongE (l.map Tb.p) t.p d.p = addE t.p d.p) := by show _ = _; unfold wrongE; rw [if_neg e2, if_neg e3, if_pos e4]
    have HAd := Lib.hid (fun w' h => radd_any t d w' h htl hd)
    generalize addE t.p d.p = E at Hv HAd
    have q2 : (d.p.op == 2) = false := by rw [beq_eq_false_iff_ne]; omega
    have q3 : (d.p.op == 3) = false := by rw [beq_eq_false_iff_ne]; omega
    have q4 : (d.p.op == 4) = true := by rw [beq_iff_eq]; omega
    have q5 : (d.p.op == 5) = false := by rw [beq_eq_false_iff_ne]; omega
    have q6 : (d.p.op == 6) = false := by rw [beq_eq_false_iff_ne]; omega
    have q7 : (d.p.op == 7) = false := by rw [beq_eq_false_iff_ne]; omega
    have q8 : (d.p.op == 8) = false := by rw [beq_eq_false_iff_ne]; omega
    clear e2 e3 e4 ho
    go_enter Tryz.func25, Tryz.ntmps25
    go_wp2_with fail
    try rw [Hw0.out]
    refine (HAd.out w0 (RowAt.to HA.out (Below.refl _ _))).mono ?_
    rintro e w1 ⟨rfl, hb⟩
    have Hb1 := Lib.hid hb
    clear hb
    try clear c0
    have c0 := (HC.out.below Hb1.out (by have := Hs0.out; omega)).one
    try clear t0 t1 t2 t3 t4
    obtain ⟨t0, t1, t2, t3, t4⟩ := (HT.out.below Hb1.out (by have := Hs0.out; omega)).tab
    try clear x0 x1 x2 x3 x4 x5 x6 x7 x8 x9 x10 x11
    obtain ⟨x0, x1, x2, x3, x4, x5, x6, x7, x8, x9, x10, x11⟩ := (HX.out.below Hb1.out (by have := Hs0.out; omega)).ddl
    go_wp2_with fail
    go_ret
    exact ⟨by rw [Hv.out]; rfl, bthen HbW.out Hb1.out⟩
  have h5 : 5 ≤ d.p.op := by omega
  have q2 : (d.p.op == 2) = false := by rw [beq_eq_false_iff_ne]; omega
  have q3 : (d.p.op == 3) = false := by rw [beq_eq_false_iff_ne]; omega
  have q4 : (d.p.op == 4) = false := by rw [beq_eq_false_iff_ne]; omega
  obtain ⟨z, hCz, _, hz, hzk⟩ := rcol_z t d.p.co htl
  have HCo := Lib.hid hCz; clear hCz
  cases hk : colP t.cols d.p.co with
  | none =>
    have Hv : Hid (wrongE (l.map Tb.p) t.p d.p = 13) := wrong_none h5 (colV_no hk)
    rw [hk] at hz
    have hz' : decide (z < (0 : Int)) = true := hz
    clear hz hzk hk h5 e2 e3 e4 ho
    go_enter Tryz.func25, Tryz.ntmps25
    go_wp2_with fail
    try rw [Hw0.out]
    refine (HCo.out w0 (RowAt.to HA.out (Below.refl _ _))).mono ?_
    rintro e w1 ⟨rfl, hb⟩
    have Hb1 := Lib.hid hb
    clear hb
    try clear c0
    have c0 := (HC.out.below Hb1.out (by have := Hs0.out; omega)).one
    try clear t0 t1 t2 t3 t4
    obtain ⟨t0, t1, t2, t3, t4⟩ := (HT.out.below Hb1.out (by have := Hs0.out; omega)).tab
    try clear x0 x1 x2 x3 x4 x5 x6 x7 x8 x9 x10 x11
    obtain ⟨x0, x1, x2, x3, x4, x5, x6, x7, x8, x9, x10, x11⟩ := (HX.out.below Hb1.out (by have := Hs0.out; omega)).ddl
    go_wp2_with fail
    go_ret
    exact ⟨by rw [Hv.out]; rfl, bthen HbW.out Hb1.out⟩
  | some k =>
  obtain ⟨x, hx⟩ : ∃ x, t.cols[k]? = some x := by
    obtain ⟨y, h1, _⟩ := find_some hk
    exact ⟨y, h1⟩
  have Hv0 := Lib.hid (wrong_some (l := l.map Tb.p) (t := t.p) h5 (colV_of hk hx))
  obtain rfl := hzk k hk
  have hkl := (List.getElem?_eq_some_iff.1 hx).1
  have hk0 : (0 : Int) ≤ (k : Int) := by omega
  have hkI : (k : Int) < (t.cols.length : Int) := by omega
  have Hx := Lib.hid hx
  clear hz hzk hk hx
  by_cases e5 : d.p.op = 5
  · have Hv : Hid (wrongE (l.map Tb.p) t.p d.p = if (x.id == t.key) = true then 15 else 0) := by show _ = _; rw [Hv0.out]; simp [e5, Tb.p]
    have q5 : (d.p.op == 5) = true := by rw [beq_iff_eq]; omega
    have q6 : (d.p.op == 6) = false := by rw [beq_eq_false_iff_ne]; omega
    have q7 : (d.p.op == 7) = false := by rw [beq_eq_false_iff_ne]; omega
    have q8 : (d.p.op == 8) = false := by rw [beq_eq_false_iff_ne]; omega
    clear h5 e2 e3 e4 e5 ho Hv0
    go_enter Tryz.func25, Tryz.ntmps25
    go_wp2_with fail
    try rw [Hw0.out]
    refine (HCo.out w0 (RowAt.to HA.out (Below.refl _ _))).mono ?_
    rintro e w1 ⟨rfl, hb⟩
    have Hb1 := Lib.hid hb
    clear hb
    try clear c0
    have c0 := (HC.out.below Hb1.out (by have := Hs0.out; omega)).one
    try clear t0 t1 t2 t3 t4
    obtain ⟨t0, t1, t2, t3, t4⟩ := (HT.out.below Hb1.out (by have := Hs0.out; omega)).tab
    try clear x0 x1 x2 x3 x4 x5 x6 x7 x8 x9 x10 x11
    obtain ⟨x0, x1, x2, x3, x4, x5, x6, x7, x8, x9, x10, x11⟩ := (HX.out.below Hb1.out (by have := Hs0.out; omega)).ddl
    have hA1 := Lib.hid (RowAt.to HA.out Hb1.out)
    obtain ⟨b, off, hAe, hbB, d0, d1, d2, d3, d4, d5, d6, d7⟩ := ColsAt.get hA1.out k x Hx.out
    rw [hAe] at t4
    clear hAe
    have kx0 := fun o => keep_alloc x0 o
    have kt2 := fun o => keep_alloc t2 o
    cases hb : (x.id == t.key)
    · rw [hb] at Hv
      go_wp2_with fail
      go_ret
      exact ⟨by rw [Hv.out]; rfl, bthen (bthen HbW.out Hb1.out) (below_one _ _)⟩
    · rw [hb] at Hv
      go_wp2_with fail
      go_ret
      exact ⟨by rw [Hv.out]; rfl, bthen (bthen HbW.out Hb1.out) (below_one _ _)⟩
  by_cases e6 : d.p.op = 6
  · have Hv : Hid (wrongE (l.map Tb.p) t.p d.p = if rightN (bs d.p.to) = true then (if (colP t.cols d.p.to).isSome = true then 14 else 0) else 8) := by
      show _ = _
      rw [Hv0.out]
      cases rightN (bs d.p.to) <;> simp [e6, Tb.p]
    have HN := Lib.hid (fun w => nrright_any d.p.to w hd.2.2.1)
    obtain ⟨z2, hCz2, hz2, _, _⟩ := rcol_z t d.p.to htl
    have HC2 := Lib.hid hCz2; clear hCz2
    generalize rightN (bs d.p.to) = b1 at Hv HN
    generalize (colP t.cols d.p.to).isSome = b2 at Hv hz2
    have q5 : (d.p.op == 5) = false := by rw [beq_eq_false_iff_ne]; omega
    have q6 : (d.p.op == 6) = true := by rw [beq_iff_eq]; omega
    have q7 : (d.p.op == 7) = false := by rw [beq_eq_false_iff_ne]; omega
    have q8 : (d.p.op == 8) = false := by rw [beq_eq_false_iff_ne]; omega
    clear h5 e2 e3 e4 e5 e6 ho Hv0
    go_enter Tryz.func25, Tryz.ntmps25
    go_wp2_with fail
    try rw [Hw0.out]
    refine (HCo.out w0 (RowAt.to HA.out (Below.refl _ _))).mono ?_
    rintro e w1 ⟨rfl, hb⟩
    have Hb1 := Lib.hid hb
    clear hb
    try clear c0
    have c0 := (HC.out.below Hb1.out (by have := Hs0.out; omega)).one
    try clear t0 t1 t2 t3 t4
    obtain ⟨t0, t1, t2, t3, t4⟩ := (HT.out.below Hb1.out (by have := Hs0.out; omega)).tab
    try clear x0 x1 x2 x3 x4 x5 x6 x7 x8 x9 x10 x11
    obtain ⟨x0, x1, x2, x3, x4, x5, x6, x7, x8, x9, x10, x11⟩ := (HX.out.below Hb1.out (by have := Hs0.out; omega)).ddl
    have hA1 := Lib.hid (RowAt.to HA.out Hb1.out)
    obtain ⟨b, off, hAe, hbB, d0, d1, d2, d3, d4, d5, d6, d7⟩ := ColsAt.get hA1.out k x Hx.out
    rw [hAe] at t4
    clear hAe
    have kx3 := fun o => keep_alloc x3 o
    have kx0 := fun o => keep_alloc x0 o
    go_wp2_with fail
    refine (HN.out _).mono ?_
    rintro e w2 ⟨rfl, hb⟩
    have Hb2 : Hid (Below w0.heap.size w0 w2) := bthen Hb1.out (by rw [← hb]; exact below_one _ _)
    clear hb kx3 kx0
    try clear c0
    have c0 := (HC.out.below Hb2.out (by have := Hs0.out; omega)).one
    try clear t0 t1 t2 t3 t4
    obtain ⟨t0, t1, t2, t3, t4⟩ := (HT.out.below Hb2.out (by have := Hs0.out; omega)).tab
    try clear x0 x1 x2 x3 x4 x5 x6 x7 x8 x9 x10 x11
    obtain ⟨x0, x1, x2, x3, x4, x5, x6, x7, x8, x9, x10, x11⟩ := (HX.out.below Hb2.out (by have := Hs0.out; omega)).ddl
    cases b1
    · go_wp2_with fail
      go_ret
      exact ⟨by rw [Hv.out]; rfl, bthen HbW.out Hb2.out⟩
    go_wp2_with fail
    refine (HC2.out w2 (RowAt.to HA.out Hb2.out)).mono ?_
    rintro e w3 ⟨rfl, hb⟩
    have Hb3 := Lib.hid (bthen Hb2.out hb)
    clear hb
    try clear c0
    have c0 := (HC.out.below Hb3.out (by have := Hs0.out; omega)).one
    try clear t0 t1 t2 t3 t4
    obtain ⟨t0, t1, t2, t3, t4⟩ := (HT.out.below Hb3.out (by have := Hs0.out; omega)).tab
    try clear x0 x1 x2 x3 x4 x5 x6 x7 x8 x9 x10 x11
    obtain ⟨x0, x1, x2, x3, x4, x5, x6, x7, x8, x9, x10, x11⟩ := (HX.out.below Hb3.out (by have := Hs0.out; omega)).ddl
    cases b2
    · go_wp2_with fail
      go_ret
      exact ⟨by rw [Hv.out]; rfl, bthen HbW.out Hb3.out⟩
    · go_wp2_with fail
      go_ret
      exact ⟨by rw [Hv.out]; rfl, bthen HbW.out Hb3.out⟩
  by_cases e7 : d.p.op = 7
  · have Hv : Hid (wrongE (l.map Tb.p) t.p d.p = if rightT d.p.tk d.p.tm = true then (if wideT d.p.tk d.p.tm x.tk x.tm = true then 0 else 16) else 9) := by
      show _ = _
      rw [Hv0.out]
      cases rightT d.p.tk d.p.tm <;> cases wideT d.p.tk d.p.tm x.tk x.tm <;> simp [e7]
    have HR := Lib.hid (fun w => trright_any d.p.tk d.p.tm w)
    have HWi := Lib.hid (fun w => trwide_any d.p.tk d.p.tm x.tk x.tm w)
    generalize rightT d.p.tk d.p.tm = b1 at Hv HR
    generalize wideT d.p.tk d.p.tm x.tk x.tm = b2 at Hv HWi
    have q5 : (d.p.op == 5) = false := by rw [beq_eq_false_iff_ne]; omega
    have q6 : (d.p.op == 6) = false := by rw [beq_eq_false_iff_ne]; omega
    have q7 : (d.p.op == 7) = true := by rw [beq_iff_eq]; omega
    have q8 : (d.p.op == 8) = false := by rw [beq_eq_false_iff_ne]; omega
    clear h5 e2 e3 e4 e5 e6 e7 ho Hv0
    go_enter Tryz.func25, Tryz.ntmps25
    go_wp2_with fail
    try rw [Hw0.out]
    refine (HCo.out w0 (RowAt.to HA.out (Below.refl _ _))).mono ?_
    rintro e w1 ⟨rfl, hb⟩
    have Hb1 := Lib.hid hb
    clear hb
    try clear c0
    have c0 := (HC.out.below Hb1.out (by have := Hs0.out; omega)).one
    try clear t0 t1 t2 t3 t4
    obtain ⟨t0, t1, t2, t3, t4⟩ := (HT.out.below Hb1.out (by have := Hs0.out; omega)).tab
    try clear x0 x1 x2 x3 x4 x5 x6 x7 x8 x9 x10 x11
    obtain ⟨x0, x1, x2, x3, x4, x5, x6, x7, x8, x9, x10, x11⟩ := (HX.out.below Hb1.out (by have := Hs0.out; omega)).ddl
    have hA1 := Lib.hid (RowAt.to HA.out Hb1.out)
    obtain ⟨b, off, hAe, hbB, d0, d1, d2, d3, d4, d5, d6, d7⟩ := ColsAt.get hA1.out k x Hx.out
    rw [hAe] at t4
    clear hAe
    have kx0 := fun o => keep_alloc x0 o
    have kx5 := fun o => keep_alloc x5 o
    have kx6 := fun o => keep_alloc x6 o
    go_wp2_with fail
    refine (HR.out _).mono ?_
    rintro e w2 ⟨rfl, hb⟩
    have HXc := Lib.hid ((BlkN.new w1 w1.heap.size (fC x) 63 rfl).below hb (by simp))
    have Hb2 : Hid (Below w0.heap.size w0 w2) := bthen Hb1.out (bthen (below_one _ _) hb)
    clear hb kx0 kx5 kx6
    try clear c0
    have c0 := (HC.out.below Hb2.out (by have := Hs0.out; omega)).one
    try clear t0 t1 t2 t3 t4
    obtain ⟨t0, t1, t2, t3, t4⟩ := (HT.out.below Hb2.out (by have := Hs0.out; omega)).tab
    try clear x0 x1 x2 x3 x4 x5 x6 x7 x8 x9 x10 x11
    obtain ⟨x0, x1, x2, x3, x4, x5, x6, x7, x8, x9, x10, x11⟩ := (HX.out.below Hb2.out (by have := Hs0.out; omega)).ddl
    obtain ⟨z0, z1, z2, z3, z4, z5, z6, z7⟩ := HXc.out.col
    cases b1
    · go_wp2_with fail
      go_ret
      exact ⟨by rw [Hv.out]; rfl, bthen HbW.out Hb2.out⟩
    go_wp2_with fail
    refine (HWi.out _).mono ?_
    rintro e w3 ⟨rfl, hb⟩
    have Hb3 := Lib.hid (bthen Hb2.out hb); clear hb
    clear z0 z1 z2 z3 z4 z5 z6 z7
    try clear c0
    have c0 := (HC.out.below Hb3.out (by have := Hs0.out; omega)).one
    try clear t0 t1 t2 t3 t4
    obtain ⟨t0, t1, t2, t3, t4⟩ := (HT.out.below Hb3.out (by have := Hs0.out; omega)).tab
    try clear x0 x1 x2 x3 x4 x5 x6 x7 x8 x9 x10 x11
    obtain ⟨x0, x1, x2, x3, x4, x5, x6, x7, x8, x9, x10, x11⟩ := (HX.out.below Hb3.out (by have := Hs0.out; omega)).ddl
    cases b2
    · go_wp2_with fail
      go_ret
      exact ⟨by rw [Hv.out]; rfl, bthen HbW.out Hb3.out⟩
    · go_wp2_with fail
      go_ret
      exact ⟨by rw [Hv.out]; rfl, bthen HbW.out Hb3.out⟩
  by_cases e8 : d.p.op = 8
  · have Hv : Hid (wrongE (l.map Tb.p) t.p d.p = if presetD x.tk x.tm d.p.dk d.p.dn d.p.ds = true then 0 else 10) := by
      show _ = _
      rw [Hv0.out]
      cases presetD x.tk x.tm d.p.dk d.p.dn d.p.ds <;> simp [e8]
    have HP := Lib.hid (fun w => rpreset_any x.tk x.tm d.p.dk d.p.dn d.p.ds w hd.2.2.2.2.2.1.1 hd.2.2.2.2.2.1.2)
    generalize presetD x.tk x.tm d.p.dk d.p.dn d.p.ds = b1 at Hv HP
    have q5 : (d.p.op == 5) = false := by rw [beq_eq_false_iff_ne]; omega
    have q6 : (d.p.op == 6) = false := by rw [beq_eq_false_iff_ne]; omega
    have q7 : (d.p.op == 7) = false := by rw [beq_eq_false_iff_ne]; omega
    have q8 : (d.p.op == 8) = true := by rw [beq_iff_eq]; omega
    clear h5 e2 e3 e4 e5 e6 e7 e8 ho Hv0
    go_enter Tryz.func25, Tryz.ntmps25
    go_wp2_with fail
    try rw [Hw0.out]
    refine (HCo.out w0 (RowAt.to HA.out (Below.refl _ _))).mono ?_
    rintro e w1 ⟨rfl, hb⟩
    have Hb1 := Lib.hid hb
    clear hb
    try clear c0
    have c0 := (HC.out.below Hb1.out (by have := Hs0.out; omega)).one
    try clear t0 t1 t2 t3 t4
    obtain ⟨t0, t1, t2, t3, t4⟩ := (HT.out.below Hb1.out (by have := Hs0.out; omega)).tab
    try clear x0 x1 x2 x3 x4 x5 x6 x7 x8 x9 x10 x11
    obtain ⟨x0, x1, x2, x3, x4, x5, x6, x7, x8, x9, x10, x11⟩ := (HX.out.below Hb1.out (by have := Hs0.out; omega)).ddl
    have hA1 := Lib.hid (RowAt.to HA.out Hb1.out)
    obtain ⟨b, off, hAe, hbB, d0, d1, d2, d3, d4, d5, d6, d7⟩ := ColsAt.get hA1.out k x Hx.out
    rw [hAe] at t4
    clear hAe
    have kx0 := fun o => keep_alloc x0 o
    have kx8 := fun o => keep_alloc x8 o
    have kx9 := fun o => keep_alloc x9 o
    have kx10 := fun o => keep_alloc x10 o
    go_wp2_with fail
    refine (HP.out _).mono ?_
    rintro e w2 ⟨rfl, hb⟩
    have Hb2 : Hid (Below w0.heap.size w0 w2) := bthen Hb1.out (bthen (below_one _ _) hb)
    clear hb kx0 kx8 kx9 kx10
    try clear c0
    have c0 := (HC.out.below Hb2.out (by have := Hs0.out; omega)).one
    try clear t0 t1 t2 t3 t4
    obtain ⟨t0, t1, t2, t3, t4⟩ := (HT.out.below Hb2.out (by have := Hs0.out; omega)).tab
    try clear x0 x1 x2 x3 x4 x5 x6 x7 x8 x9 x10 x11
    obtain ⟨x0, x1, x2, x3, x4, x5, x6, x7, x8, x9, x10, x11⟩ := (HX.out.below Hb2.out (by have := Hs0.out; omega)).ddl
    cases b1
    · go_wp2_with fail
      go_ret
      exact ⟨by rw [Hv.out]; rfl, bthen HbW.out Hb2.out⟩
    · go_wp2_with fail
      go_ret
      exact ⟨by rw [Hv.out]; rfl, bthen HbW.out Hb2.out⟩
  omega
end Go.Proofs.YthmjgaekcghonaaGreatDoor

/-
  Contract of the document's own create of layer 9.
-/
namespace Go.Proofs.YthmjgaekcghonaaGreatDoor
open Go.RowKit

theorem box_cd (w : World) (v : Value) (d : Db) : ∃ w0, (w.alloc (.cells #[v] 24)).alloc (.cells #[.int .i64 d.p.op, .string d.p.tb, .string d.p.co, .string d.p.to, .string d.p.key, .int .i64 d.p.tk, .int .i64 d.p.tm, .bool d.p.nl, .int .i64 d.p.dk, .int .i64 d.p.dn, .string d.p.ds, .slice d.A d.p.cols.length d.cap] 31) = w0 ∧
    Below w.heap.size w w0 ∧ BlkN w0 w.heap.size [v] ∧ BlkN w0 (w.heap.size + 1) (fD d) ∧ w0.heap.size = w.heap.size + 2 :=
  ⟨_, rfl, below_two w _ _, (BlkN.new w _ [v] _ rfl).alloc (by simp) _, BlkN.new _ _ (fD d) _ (by simp), by simp⟩
theorem ncols_step {l : List Cb} {n : Nat} {x : Cb} (hx : l[n]? = some x) (h : ncolE l n x = 0) : ncolsE l n (l.drop n) = ncolsE l (n + 1) (l.drop (n + 1)) := by
  obtain ⟨h1, rfl⟩ := List.getElem?_eq_some_iff.1 hx
  rw [← List.getElem_cons_drop h1, ncolsE, if_pos h]
theorem ncols_stop {l : List Cb} {n : Nat} {x : Cb} (hx : l[n]? = some x) (h : ncolE l n x ≠ 0) : ncolsE l n (l.drop n) = ncolE l n x := by
  obtain ⟨h1, rfl⟩ := List.getElem?_eq_some_iff.1 hx
  rw [← List.getElem_cons_drop h1, ncolsE, if_neg h]
theorem take_find_no {l : List Cb} {n : Nat} {s : ByteArray} (h : ∀ (q : Nat) y, l[q]? = some y → q < n → y.nm ≠ s) : ((l.take n).findIdx? fun y => eqS y.nm s).isSome = false := by
  rw [find_no (l := l.take n) (p := fun y => eqS y.nm s) fun j x hj => by
    rw [List.getElem?_take] at hj
    split at hj
    · rename_i hjn
      cases he : eqS x.nm s with
      | false => rfl
      | true => exact absurd (eqS_iff.1 he) (h j x hj hjn)
    · cases hj]
  rfl
theorem take_find_yes {l : List Cb} {n q : Nat} {s : ByteArray} {y : Cb} (hy : l[q]? = some y) (hq : q < n) (h : y.nm = s) : ((l.take n).findIdx? fun y => eqS y.nm s).isSome = true := by
  cases hf : (l.take n).findIdx? fun y => eqS y.nm s with
  | some _ => rfl
  | none =>
    rw [List.findIdx?_eq_none_iff] at hf
    have := hf y (List.mem_of_getElem? (i := q) (by rw [List.getElem?_take, if_pos hq]; exact hy))
    rw [eqS_iff.2 h] at this; cases this
set_option maxRecDepth 100000 in
set_option maxHeartbeats 6400000 in
theorem rcreate_any (A : Option Addr) (cp : Nat) (l : List Tb) (d : Db) (id : Int) (w : World) (hC : TabsAt w w.heap.size A l) (hl : l.length ≤ 1000000) (hD : DdlAt w w.heap.size d) (hd : WfD d.p) :
    Calls Tryz.prog 22 #[.agg #[.slice A l.length cp], DV d, .int .i64 id] w fun e w' => e = .returned (.int .i64 (createE (l.map Tb.p) d.p id)) ∧ Below w.heap.size w w' := by
  obtain ⟨w0, hw0, hb0, hU, hX, hs0⟩ := box_cd w (.slice A l.length cp) d
  have Hw0 := Lib.hid hw0; clear hw0
  have HbW := Lib.hid hb0
  have HC := Lib.hid hU; clear hU
  have HX := Lib.hid hX; clear hX
  have Hs0 := Lib.hid hs0; clear hs0
  have HL := Lib.hid (hC.to hb0)
  have HD := Lib.hid (RowAt.to hD hb0); clear hD hb0 hC
  have HN := Lib.hid (fun w => nrright_any d.p.tb w hd.1)
  obtain ⟨z, hCz, hz, _, _⟩ := rfind_z A cp l d.p.tb hl
  have HF := Lib.hid hCz; clear hCz
  obtain ⟨zi, hCi, hzi⟩ := rbyid_z A cp l id hl
  have HI := Lib.hid hCi; clear hCi
  have Hv : Hid (createE (l.map Tb.p) d.p id = if rightN (bs d.p.tb) = true then
    if (findT (l.map Tb.p) d.p.tb).isSome = true then 14 else if 6 ≤ (l.map Tb.p).length then 3 else if ((l.map Tb.p).findIdx? fun t => t.id == id).isSome = true then 24 else if d.p.cols.length = 0 then 5 else if 10 < d.p.cols.length then 3
    else if ncolsE d.p.cols 0 d.p.cols = 0 then (match (colP d.p.cols d.p.key).bind fun k => d.p.cols[k]? with
      | none => 15
      | some c => if c.nl = true then 11 else 0)
    else ncolsE d.p.cols 0 d.p.cols
  else 8) := rfl
  rw [List.length_map] at Hv
  generalize createE (l.map Tb.p) d.p id = E at Hv ⊢
  generalize rightN (bs d.p.tb) = b1 at Hv HN
  generalize (findT (l.map Tb.p) d.p.tb).isSome = b2 at Hv hz
  generalize ((l.map Tb.p).findIdx? fun t => t.id == id).isSome = b3 at Hv hzi
  have Hd := Lib.hid hd; clear hd
  try clear c0
  have c0 := HC.out.one
  try clear x0 x1 x2 x3 x4 x5 x6 x7 x8 x9 x10 x11
  obtain ⟨x0, x1, x2, x3, x4, x5, x6, x7, x8, x9, x10, x11⟩ := HX.out.ddl
  go_enter Tryz.func22, Tryz.ntmps22
  go_wp2_with fail
  try rw [Hw0.out]
  refine ((below_of_same (HN.out _))).mono ?_
  rintro e w1 ⟨rfl, hb⟩
  have Hb1 := Lib.hid hb
  clear hb
  try clear c0
  have c0 := (HC.out.below Hb1.out (by have := Hs0.out; omega)).one
  try clear x0 x1 x2 x3 x4 x5 x6 x7 x8 x9 x10 x11
  obtain ⟨x0, x1, x2, x3, x4, x5, x6, x7, x8, x9, x10, x11⟩ := (HX.out.below Hb1.out (by have := Hs0.out; omega)).ddl
  cases b1
  · go_wp2_with fail
    go_ret
    exact ⟨by rw [Hv.out]; rfl, bthen HbW.out Hb1.out⟩
  go_wp2_with fail
  refine (HF.out w1 (HL.out.to Hb1.out)).mono ?_
  rintro e w2 ⟨rfl, hb⟩
  have Hb2 := Lib.hid (bthen Hb1.out hb)
  clear hb
  try clear c0
  have c0 := (HC.out.below Hb2.out (by have := Hs0.out; omega)).one
  try clear x0 x1 x2 x3 x4 x5 x6 x7 x8 x9 x10 x11
  obtain ⟨x0, x1, x2, x3, x4, x5, x6, x7, x8, x9, x10, x11⟩ := (HX.out.below Hb2.out (by have := Hs0.out; omega)).ddl
  cases b2
  case true =>
    go_wp2_with fail
    go_ret
    exact ⟨by rw [Hv.out]; rfl, bthen HbW.out Hb2.out⟩
  by_cases h6 : 6 ≤ l.length
  · have g6 : decide (6 ≤ (l.length : Int)) = true := by simp; omega
    have He : Hid (E = 3) := by show _ = _; rw [Hv.out]; simp [h6]
    clear h6
    go_wp2_with fail
    go_ret
    exact ⟨by rw [He.out]; rfl, bthen HbW.out Hb2.out⟩
  have g6 : decide (6 ≤ (l.length : Int)) = false := by simp; omega
  rw [if_neg h6] at Hv
  clear h6
  go_wp2_with fail
  refine (HI.out w2 (HL.out.to Hb2.out)).mono ?_
  rintro e w3 ⟨rfl, hb⟩
  have Hb3 := Lib.hid (bthen Hb2.out hb)
  clear hb
  try clear c0
  have c0 := (HC.out.below Hb3.out (by have := Hs0.out; omega)).one
  try clear x0 x1 x2 x3 x4 x5 x6 x7 x8 x9 x10 x11
  obtain ⟨x0, x1, x2, x3, x4, x5, x6, x7, x8, x9, x10, x11⟩ := (HX.out.below Hb3.out (by have := Hs0.out; omega)).ddl
  cases b3
  case true =>
    go_wp2_with fail
    go_ret
    exact ⟨by rw [Hv.out]; rfl, bthen HbW.out Hb3.out⟩
  by_cases h0 : d.p.cols.length = 0
  · have g0 : ((d.p.cols.length : Int) == 0) = true := by simp [h0]
    have He : Hid (E = 5) := by show _ = _; rw [Hv.out]; simp [h0]
    clear h0
    go_wp2_with fail
    go_ret
    exact ⟨by rw [He.out]; rfl, bthen HbW.out Hb3.out⟩
  have g0 : ((d.p.cols.length : Int) == 0) = false := by rw [beq_eq_false_iff_ne]; omega
  rw [if_neg h0] at Hv
  by_cases h10 : 10 < d.p.cols.length
  · have g1 : decide (10 < (d.p.cols.length : Int)) = true := by simp; omega
    have He : Hid (E = 3) := by show _ = _; rw [Hv.out]; simp [h10]
    clear h10 h0
    go_wp2_with fail
    go_ret
    exact ⟨by rw [He.out]; rfl, bthen HbW.out Hb3.out⟩
  have g1 : decide (10 < (d.p.cols.length : Int)) = false := by simp; omega
  rw [if_neg h10] at Hv
  have hlen : d.p.cols.length ≤ 10 := by omega
  clear h0 h10
  go_wp2_with fail
  clear g0 g1 g6 hz hzi HN HF HI c0 Hb1 Hb2
  replace Hv : Hid (E = if ncolsE d.p.cols 0 d.p.cols = 0 then (match (colP d.p.cols d.p.key).bind fun k => d.p.cols[k]? with
      | none => 15
      | some c => if c.nl = true then 11 else 0)
    else ncolsE d.p.cols 0 d.p.cols) := by show _ = _; rw [Hv.out]; rfl
  go_loopw [7] (fun i wr => ∃ n : Nat, n ≤ d.p.cols.length ∧ i = .int .i64 n ∧ Hid (ncolsE d.p.cols 0 d.p.cols = ncolsE d.p.cols n (d.p.cols.drop n)) ∧ Hid (Below w0.heap.size w0 wr)) (fun i _ => d.p.cols.length - (intOf i).toNat)
  case atStart => exact ⟨0, by omega, rfl, by rfl, Hb3.out⟩
  case round =>
    clear x0 x1 x2 x3 x4 x5 x6 x7 x8 x9 x10 x11 Hb3
    obtain ⟨n, hn, rfl, hnc, Hb4⟩ := hrel
    try clear x0 x1 x2 x3 x4 x5 x6 x7 x8 x9 x10 x11
    obtain ⟨x0, x1, x2, x3, x4, x5, x6, x7, x8, x9, x10, x11⟩ := (HX.out.below Hb4.out (by have := Hs0.out; omega)).ddl
    by_cases hlt : n < d.p.cols.length
    · obtain ⟨x, hx⟩ : ∃ x, d.p.cols[n]? = some x := ⟨d.p.cols[n], by simp [hlt]⟩
      have Hx := Lib.hid hx
      obtain ⟨b, off, hAe, hbB, d0, d1, d2, d3, d4, d5, d6, d7⟩ := ColsAt.get (RowAt.to HD.out Hb4.out) n x hx
      rw [hAe] at x11
      have hwx := Hd.out.2.2.2.2.2.2 x (List.mem_of_getElem? hx)
      have HN := Lib.hid (fun w => nrright_any x.nm w hwx.1)
      have HR := Lib.hid (fun w => trright_any x.tk x.tm w)
      have HP := Lib.hid (fun w => rpreset_any x.tk x.tm x.dk x.dn x.ds w hwx.2.1 hwx.2.2)
      have Hnc : Hid (ncolE d.p.cols n x = if rightN (bs x.nm) = true then (if ((d.p.cols.take n).findIdx? fun y => eqS y.nm x.nm).isSome = true then 14 else if rightT x.tk x.tm = true then (if presetD x.tk x.tm x.dk x.dn x.ds = true then 0 else 10) else 9) else 8) := rfl
      have HE : Hid (ncolE d.p.cols n x ≠ 0 → E = ncolE d.p.cols n x) := fun h => by
        rw [Hv.out, hnc.out, ncols_stop Hx.out h, if_neg h]
      have HE0 : Hid (ncolE d.p.cols n x = 0 → ncolsE d.p.cols 0 d.p.cols = ncolsE d.p.cols (n + 1) (d.p.cols.drop (n + 1))) := fun h => by
        rw [hnc.out, ncols_step Hx.out h]
      generalize ncolE d.p.cols n x = F at Hnc HE HE0
      generalize rightN (bs x.nm) = b1 at Hnc HN
      generalize rightT x.tk x.tm = b3 at Hnc HR
      generalize presetD x.tk x.tm x.dk x.dn x.ds = b4 at Hnc HP
      obtain ⟨v0, hv0, hbv0, hXc, hsv0⟩ := box_col wr x
      have Hv0 := Lib.hid hv0; clear hv0
      have Hbv0 := Lib.hid (bthen Hb4.out hbv0); clear hbv0
      have Hsv0 := Lib.hid hsv0; clear hsv0
      have HXc := Lib.hid hXc; clear hXc
      clear hx hAe hwx
      go_wp2_with fail
      rw [Hv0.out]
      refine (HN.out v0).mono ?_
      rintro e v1 ⟨rfl, hv⟩
      subst hv
      clear HN d0 d1 d2 d3 d4 d5 d6 d7 x0 x1 x2 x3 x4 x5 x6 x7 x8 x9 x10 x11
      cases b1
      · have hF : F = 8 := Hnc.out
        have He : Hid (E = 8) := by show _ = _; rw [HE.out (by rw [hF]; decide), hF]
        go_wp2_with fail
        go_ret
        exact ⟨by rw [He.out]; rfl, bthen HbW.out Hbv0.out⟩
      go_wp2_with fail
      go_loopw [9] (fun i wz => ∃ j : Nat, j ≤ n ∧ i = .int .i64 j ∧ Hid (∀ (q : Nat) y, d.p.cols[q]? = some y → q < j → y.nm ≠ x.nm) ∧ Hid (Below v0.heap.size v0 wz)) (fun i _ => n - (intOf i).toNat)
      case atStart => exact ⟨0, by omega, rfl, fun q y _ h => absurd h (by omega), Below.refl _ _⟩
      case round =>
        obtain ⟨j, hj, rfl, hall, hbz⟩ := hrel
        have Hb5 := Lib.hid (bthen Hbv0.out hbz.out)
        try clear x0 x1 x2 x3 x4 x5 x6 x7 x8 x9 x10 x11
        obtain ⟨x0, x1, x2, x3, x4, x5, x6, x7, x8, x9, x10, x11⟩ := (HX.out.below Hb5.out (by have := Hs0.out; omega)).ddl
        obtain ⟨z0, z1, z2, z3, z4, z5, z6, z7⟩ := (HXc.out.below hbz.out (by have := Hsv0.out; omega)).col
        by_cases hjn : j < n
        · obtain ⟨y, hy⟩ : ∃ y, d.p.cols[j]? = some y := ⟨d.p.cols[j]'(by omega), by simp [show j < d.p.cols.length by omega]⟩
          have Hy := Lib.hid hy
          obtain ⟨b, off, hAe, hbB, d0, d1, d2, d3, d4, d5, d6, d7⟩ := ColsAt.get (RowAt.to HD.out Hb5.out) j y hy
          rw [hAe] at x11
          have hjI : (j : Int) < (d.p.cols.length : Int) := by omega
          have hj0 : (0 : Int) ≤ (j : Int) := by omega
          clear hy hAe
          cases he : (y.nm.toList == x.nm.toList)
          · have Hne : Hid (y.nm ≠ x.nm) := fun e => by rw [e] at he; simp at he
            go_wp2_with fail
            go_quiet (fail)
            go_wp2_with fail
            go_roundw
            case rel => exact ⟨j + 1, by omega, by go_num, fun q y' hq hqj => by
              by_cases e : q = j
              · subst e
                rw [Hy.out] at hq; cases hq
                exact Hne.out
              · exact hall.out q y' hq (by omega), bthen hbz.out (((Drew.refl _).more _).below _)⟩
            case measure => simp [intOf]; omega
          · have He : Hid (E = 14) := by
              have h14 : F = 14 := by rw [Hnc.out, take_find_yes Hy.out hjn (toList_eqB.1 (beq_iff_eq.1 he))]; rfl
              show _ = _; rw [HE.out (by rw [h14]; decide), h14]
            go_wp2_with fail
            go_quiet (fail)
            go_wp2_with fail
            go_ret
            exact ⟨by rw [He.out]; rfl, bthen (bthen HbW.out Hb5.out) (((Drew.refl _).more _).below _)⟩
        · have hn14 := take_find_no (s := x.nm) (n := n) fun q y hq hqn => hall.out q y hq (by omega)
          have Hn14 := Lib.hid hn14; clear hn14
          rw [Hn14.out] at Hnc
          clear hall
          go_wp2_with fail
          refine (HR.out _).mono ?_
          rintro e v2 ⟨rfl, hb⟩
          have Hb6 := Lib.hid (bthen Hb5.out hb)
          have Hd6 := Lib.hid (bthen hbz.out hb); clear hb
          clear z0 z1 z2 z3 z4 z5 z6 z7
          try clear x0 x1 x2 x3 x4 x5 x6 x7 x8 x9 x10 x11
          obtain ⟨x0, x1, x2, x3, x4, x5, x6, x7, x8, x9, x10, x11⟩ := (HX.out.below Hb6.out (by have := Hs0.out; omega)).ddl
          obtain ⟨z0, z1, z2, z3, z4, z5, z6, z7⟩ := (HXc.out.below Hd6.out (by have := Hsv0.out; omega)).col
          cases b3
          · have hF : F = 9 := Hnc.out
            have He : Hid (E = 9) := by show _ = _; rw [HE.out (by rw [hF]; decide), hF]
            go_wp2_with fail
            go_ret
            exact ⟨by rw [He.out]; rfl, bthen HbW.out Hb6.out⟩
          go_wp2_with fail
          refine (HP.out _).mono ?_
          rintro e v3 ⟨rfl, hb⟩
          have Hb7 := Lib.hid (bthen Hb6.out hb); clear hb z0 z1 z2 z3 z4 z5 z6 z7
          try clear x0 x1 x2 x3 x4 x5 x6 x7 x8 x9 x10 x11
          obtain ⟨x0, x1, x2, x3, x4, x5, x6, x7, x8, x9, x10, x11⟩ := (HX.out.below Hb7.out (by have := Hs0.out; omega)).ddl
          cases b4
          · have hF : F = 10 := Hnc.out
            have He : Hid (E = 10) := by show _ = _; rw [HE.out (by rw [hF]; decide), hF]
            go_wp2_with fail
            go_ret
            exact ⟨by rw [He.out]; rfl, bthen HbW.out Hb7.out⟩
          have Hst := Lib.hid (HE0.out (by rw [Hnc.out]; rfl))
          go_wp2_with fail
          go_roundw
          case rel => exact ⟨n + 1, by omega, by go_num, Hst.out, Hb7.out⟩
          case measure => simp [intOf]; omega
    · have hz0 : ncolsE d.p.cols 0 d.p.cols = 0 := by
        rw [hnc.out, List.drop_eq_nil_of_le (by omega)]; rfl
      rw [if_pos hz0] at Hv
      clear hz0 hnc
      obtain ⟨z, hCz, _, hz, hzk⟩ := rcol_z ⟨0, ⟨#[]⟩, 0, 0, d.A, d.cap, d.p.cols⟩ d.p.key (by show d.p.cols.length ≤ _; omega)
      have HK := Lib.hid (hCz wr (RowAt.to HD.out Hb4.out)); clear hCz
      go_wp2_with fail
      refine HK.out.mono ?_
      rintro e w5 ⟨rfl, hb⟩
      have Hb5 := Lib.hid (bthen Hb4.out hb); clear hb HK
      try clear x0 x1 x2 x3 x4 x5 x6 x7 x8 x9 x10 x11
      obtain ⟨x0, x1, x2, x3, x4, x5, x6, x7, x8, x9, x10, x11⟩ := (HX.out.below Hb5.out (by have := Hs0.out; omega)).ddl
      cases hk : colP d.p.cols d.p.key with
      | none =>
        rw [hk] at Hv
        have hz' : decide (z < (0 : Int)) = true := by rw [hz]; show (!(colP d.p.cols d.p.key).isSome) = true; rw [hk]; rfl
        clear hz hzk hk
        go_wp2_with fail
        go_ret
        exact ⟨by rw [Hv.out]; rfl, bthen HbW.out Hb5.out⟩
      | some k =>
        obtain rfl := hzk k hk
        obtain ⟨c, hc, _⟩ := find_some hk
        have hkl := (List.getElem?_eq_some_iff.1 hc).1
        have He : Hid (E = if c.nl = true then 11 else 0) := by
          show _ = _
          rw [Hv.out, hk]
          simp only [Option.bind_some, hc]
        obtain ⟨b, off, hAe, hbB, d0, d1, d2, d3, d4, d5, d6, d7⟩ := ColsAt.get (RowAt.to HD.out Hb5.out) k c hc
        rw [hAe] at x11
        have hkI : (k : Int) < (d.p.cols.length : Int) := by omega
        have hk0 : (0 : Int) ≤ (k : Int) := by omega
        clear hz hzk hk hc hAe Hv
        cases hnl : c.nl
        · rw [hnl] at d4 He
          go_wp2_with fail
          go_ret
          exact ⟨by rw [He.out]; rfl, bthen HbW.out Hb5.out⟩
        · rw [hnl] at d4 He
          go_wp2_with fail
          go_ret
          exact ⟨by rw [He.out]; rfl, bthen HbW.out Hb5.out⟩
end Go.Proofs.YthmjgaekcghonaaGreatDoor

/-
  The contract of the document's own Cast.
-/
namespace Go.Proofs.YthmjgaekcghonaaGreatDoor
open Go.RowKit

set_option maxRecDepth 100000 in
set_option maxHeartbeats 3200000 in
theorem trcast_any (k n : Int) (s : ByteArray) (tk tm : Int) (w : World) (h1 : -9223372036854775808 ≤ n) (h2 : n < 9223372036854775808) :
    Calls Tryz.prog 53 #[VV k n s, TT tk tm] w fun e w' => e = .returned (castR k n s tk tm) ∧ Below w.heap.size w w' := by
  rw [← rcastR_eq]
  have HV := Lib.hid (fun w => vrright_any k n s w h1 h2)
  have HR := Lib.hid (fun w => trright_any tk tm w)
  have HD := Lib.hid (fun w => rdigits_any n w h1 h2)
  clear h1 h2
  have Hv : Hid (rcastR k n s tk tm = bif rightV k n (bs s) then bif rightT tk tm then bif k == 0 then cR (VV k n s) 0 else bif decide (tk < k) then cR (VV 0 0 ⟨#[]⟩) 9 else bif decide (tk < 3) then cR (VV tk n ⟨#[]⟩) 0 else
    bif decide (k < 3) then bif decide (tm < ((⟨(dz n).toArray⟩ : ByteArray).size : Int)) then cR (VV 0 0 ⟨#[]⟩) 10 else cR (VV tk 0 ⟨(dz n).toArray⟩) 0
    else bif decide (tm < (s.size : Int)) then cR (VV 0 0 ⟨#[]⟩) 10 else cR (VV tk 0 s) 0
    else cR (VV 0 0 ⟨#[]⟩) 2 else cR (VV 0 0 ⟨#[]⟩) 2) := rfl
  generalize rightV k n (bs s) = a at HV Hv
  generalize rightT tk tm = b at HR Hv
  generalize hz : (k == 0) = z at Hv
  generalize hc : decide (tk < k) = c at Hv
  generalize hd : decide (tk < 3) = d at Hv
  generalize hf : decide (k < 3) = f at Hv
  generalize (⟨(dz n).toArray⟩ : ByteArray) = D at HD Hv
  generalize hg : decide (tm < (s.size : Int)) = g at Hv
  generalize hg2 : decide (tm < (D.size : Int)) = g2 at Hv
  cases a
  · go_enter Tryz.func53, Tryz.ntmps53
    go_wp2_with fail
    refine (HV.out _).mono ?_
    rintro e w1 ⟨rfl, hb1⟩
    have HB := Lib.hid ((BxC.new w _ _ _ _ _ _ _ _ _ _ _).step hb1)
    clear hb1
    obtain ⟨⟨c0, c1, c2, _⟩, ⟨d0, d1, _⟩, ⟨e0, e1, e2, f0, f1, f2⟩, _, hb'⟩ := HB.out
    go_wp2_with fail
    try simp only [Exit.inBlock, Exit.then]
    refine bodyPost_ret (results_v2 rfl _ _ rfl HB.out.2.2.1.set3) rfl ?_
    exact ⟨by rw [Hv.out]; rfl, by go_grown⟩
  cases b
  · go_enter Tryz.func53, Tryz.ntmps53
    go_wp2_with fail
    refine (HV.out _).mono ?_
    rintro e w1 ⟨rfl, hb1⟩
    have HB := Lib.hid ((BxC.new w _ _ _ _ _ _ _ _ _ _ _).step hb1)
    clear hb1
    obtain ⟨⟨c0, c1, c2, _⟩, ⟨d0, d1, _⟩, _⟩ := HB.out
    go_wp2_with fail
    refine (HR.out _).mono ?_
    rintro e w2 ⟨rfl, hb2⟩
    have HB2 := Lib.hid (HB.out.step hb2)
    clear hb2 c0 c1 c2 d0 d1
    obtain ⟨⟨c0, c1, c2, _⟩, ⟨d0, d1, _⟩, ⟨e0, e1, e2, f0, f1, f2⟩, _, hb'⟩ := HB2.out
    go_wp2_with fail
    try simp only [Exit.inBlock, Exit.then]
    refine bodyPost_ret (results_v2 rfl _ _ rfl HB2.out.2.2.1.set3) rfl ?_
    exact ⟨by rw [Hv.out]; rfl, by go_grown⟩
  cases z
  · cases c
    · cases d
      · cases f
        · cases g
          · go_enter Tryz.func53, Tryz.ntmps53
            go_wp2_with fail
            refine (HV.out _).mono ?_
            rintro e w1 ⟨rfl, hb1⟩
            have HB := Lib.hid ((BxC.new w _ _ _ _ _ _ _ _ _ _ _).step hb1)
            clear hb1
            obtain ⟨⟨c0, c1, c2, _⟩, ⟨d0, d1, _⟩, _⟩ := HB.out
            go_wp2_with fail
            refine (HR.out _).mono ?_
            rintro e w2 ⟨rfl, hb2⟩
            have HB2 := Lib.hid (HB.out.step hb2)
            clear hb2 c0 c1 c2 d0 d1
            obtain ⟨⟨c0, c1, c2, _⟩, ⟨d0, d1, _⟩, ⟨e0, e1, e2, f0, f1, f2⟩, _, hb'⟩ := HB2.out
            go_wp2_with fail
            try simp only [Exit.inBlock, Exit.then]
            refine bodyPost_ret (results_v2 rfl _ _ rfl HB2.out.2.2.1.set3) rfl ?_
            exact ⟨by rw [Hv.out]; rfl, by go_grown⟩
          · go_enter Tryz.func53, Tryz.ntmps53
            go_wp2_with fail
            refine (HV.out _).mono ?_
            rintro e w1 ⟨rfl, hb1⟩
            have HB := Lib.hid ((BxC.new w _ _ _ _ _ _ _ _ _ _ _).step hb1)
            clear hb1
            obtain ⟨⟨c0, c1, c2, _⟩, ⟨d0, d1, _⟩, _⟩ := HB.out
            go_wp2_with fail
            refine (HR.out _).mono ?_
            rintro e w2 ⟨rfl, hb2⟩
            have HB2 := Lib.hid (HB.out.step hb2)
            clear hb2 c0 c1 c2 d0 d1
            obtain ⟨⟨c0, c1, c2, _⟩, ⟨d0, d1, _⟩, ⟨e0, e1, e2, f0, f1, f2⟩, _, hb'⟩ := HB2.out
            go_wp2_with fail
            try simp only [Exit.inBlock, Exit.then]
            refine bodyPost_ret (results_v2 rfl _ _ rfl HB2.out.2.2.1.set3) rfl ?_
            exact ⟨by rw [Hv.out]; rfl, by go_grown⟩
        · cases g2
          · go_enter Tryz.func53, Tryz.ntmps53
            go_wp2_with fail
            refine (HV.out _).mono ?_
            rintro e w1 ⟨rfl, hb1⟩
            have HB := Lib.hid ((BxC.new w _ _ _ _ _ _ _ _ _ _ _).step hb1)
            clear hb1
            obtain ⟨⟨c0, c1, c2, _⟩, ⟨d0, d1, _⟩, _⟩ := HB.out
            go_wp2_with fail
            refine (HR.out _).mono ?_
            rintro e w2 ⟨rfl, hb2⟩
            have HB2 := Lib.hid (HB.out.step hb2)
            clear hb2 c0 c1 c2 d0 d1
            obtain ⟨⟨c0, c1, c2, _⟩, ⟨d0, d1, _⟩, _⟩ := HB2.out
            go_wp2_with fail
            refine (HD.out _).mono ?_
            rintro e w3 ⟨rfl, rfl⟩
            clear c0 c1 c2 d0 d1
            obtain ⟨⟨c0, c1, c2, _⟩, ⟨d0, d1, _⟩, ⟨e0, e1, e2, f0, f1, f2⟩, _, hb'⟩ := HB2.out
            go_wp2_with fail
            try simp only [Exit.inBlock, Exit.then]
            refine bodyPost_ret (results_v2 rfl _ _ rfl HB2.out.2.2.1.set3) rfl ?_
            exact ⟨by rw [Hv.out]; rfl, by go_grown⟩
          · go_enter Tryz.func53, Tryz.ntmps53
            go_wp2_with fail
            refine (HV.out _).mono ?_
            rintro e w1 ⟨rfl, hb1⟩
            have HB := Lib.hid ((BxC.new w _ _ _ _ _ _ _ _ _ _ _).step hb1)
            clear hb1
            obtain ⟨⟨c0, c1, c2, _⟩, ⟨d0, d1, _⟩, _⟩ := HB.out
            go_wp2_with fail
            refine (HR.out _).mono ?_
            rintro e w2 ⟨rfl, hb2⟩
            have HB2 := Lib.hid (HB.out.step hb2)
            clear hb2 c0 c1 c2 d0 d1
            obtain ⟨⟨c0, c1, c2, _⟩, ⟨d0, d1, _⟩, _⟩ := HB2.out
            go_wp2_with fail
            refine (HD.out _).mono ?_
            rintro e w3 ⟨rfl, rfl⟩
            clear c0 c1 c2 d0 d1
            obtain ⟨⟨c0, c1, c2, _⟩, ⟨d0, d1, _⟩, ⟨e0, e1, e2, f0, f1, f2⟩, _, hb'⟩ := HB2.out
            go_wp2_with fail
            try simp only [Exit.inBlock, Exit.then]
            refine bodyPost_ret (results_v2 rfl _ _ rfl HB2.out.2.2.1.set3) rfl ?_
            exact ⟨by rw [Hv.out]; rfl, by go_grown⟩
      · go_enter Tryz.func53, Tryz.ntmps53
        go_wp2_with fail
        refine (HV.out _).mono ?_
        rintro e w1 ⟨rfl, hb1⟩
        have HB := Lib.hid ((BxC.new w _ _ _ _ _ _ _ _ _ _ _).step hb1)
        clear hb1
        obtain ⟨⟨c0, c1, c2, _⟩, ⟨d0, d1, _⟩, _⟩ := HB.out
        go_wp2_with fail
        refine (HR.out _).mono ?_
        rintro e w2 ⟨rfl, hb2⟩
        have HB2 := Lib.hid (HB.out.step hb2)
        clear hb2 c0 c1 c2 d0 d1
        obtain ⟨⟨c0, c1, c2, _⟩, ⟨d0, d1, _⟩, ⟨e0, e1, e2, f0, f1, f2⟩, _, hb'⟩ := HB2.out
        go_wp2_with fail
        try simp only [Exit.inBlock, Exit.then]
        refine bodyPost_ret (results_v2 rfl _ _ rfl HB2.out.2.2.1.set3) rfl ?_
        exact ⟨by rw [Hv.out]; rfl, by go_grown⟩
    · go_enter Tryz.func53, Tryz.ntmps53
      go_wp2_with fail
      refine (HV.out _).mono ?_
      rintro e w1 ⟨rfl, hb1⟩
      have HB := Lib.hid ((BxC.new w _ _ _ _ _ _ _ _ _ _ _).step hb1)
      clear hb1
      obtain ⟨⟨c0, c1, c2, _⟩, ⟨d0, d1, _⟩, _⟩ := HB.out
      go_wp2_with fail
      refine (HR.out _).mono ?_
      rintro e w2 ⟨rfl, hb2⟩
      have HB2 := Lib.hid (HB.out.step hb2)
      clear hb2 c0 c1 c2 d0 d1
      obtain ⟨⟨c0, c1, c2, _⟩, ⟨d0, d1, _⟩, ⟨e0, e1, e2, f0, f1, f2⟩, _, hb'⟩ := HB2.out
      go_wp2_with fail
      try simp only [Exit.inBlock, Exit.then]
      refine bodyPost_ret (results_v2 rfl _ _ rfl HB2.out.2.2.1.set3) rfl ?_
      exact ⟨by rw [Hv.out]; rfl, by go_grown⟩
  · go_enter Tryz.func53, Tryz.ntmps53
    go_wp2_with fail
    refine (HV.out _).mono ?_
    rintro e w1 ⟨rfl, hb1⟩
    have HB := Lib.hid ((BxC.new w _ _ _ _ _ _ _ _ _ _ _).step hb1)
    clear hb1
    obtain ⟨⟨c0, c1, c2, _⟩, ⟨d0, d1, _⟩, _⟩ := HB.out
    go_wp2_with fail
    refine (HR.out _).mono ?_
    rintro e w2 ⟨rfl, hb2⟩
    have HB2 := Lib.hid (HB.out.step hb2)
    clear hb2 c0 c1 c2 d0 d1
    obtain ⟨⟨c0, c1, c2, _⟩, ⟨d0, d1, _⟩, ⟨e0, e1, e2, f0, f1, f2⟩, _, hb'⟩ := HB2.out
    go_wp2_with fail
    try simp only [Exit.inBlock, Exit.then]
    refine bodyPost_ret (results_v2 rfl _ _ rfl HB2.out.2.2.1.set3) rfl ?_
    exact ⟨by rw [Hv.out]; rfl, by go_grown⟩
end Go.Proofs.YthmjgaekcghonaaGreatDoor
