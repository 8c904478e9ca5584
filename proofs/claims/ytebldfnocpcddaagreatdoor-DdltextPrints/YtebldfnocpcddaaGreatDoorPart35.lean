/-
  Texts that the proof needs, one behind the other: DdlRefSameC.
-/
import Derived.Test.YtebldfnocpcddaaGreatDoorPart16

/-
  Contract of the document's Same of changes.
-/
namespace Go.Proofs.YtebldfnocpcddaaGreatDoor
open Go.RowKit

/-- are two changes alike in all parts? -/
noncomputable def sameD (a b : Db) : Bool := (a.p.op == b.p.op) && ((a.p.tb.toList == b.p.tb.toList) && ((a.p.co.toList == b.p.co.toList) && ((a.p.to.toList == b.p.to.toList) && ((a.p.key.toList == b.p.key.toList) && ((a.p.tk == b.p.tk) && ((a.p.tm == b.p.tm) && ((a.p.nl == b.p.nl) && ((a.p.dk == b.p.dk) && ((a.p.dn == b.p.dn) && ((a.p.ds.toList == b.p.ds.toList) && tf (Pair eqC a.p.cols b.p.cols)))))))))))
set_option maxRecDepth 100000 in
set_option maxHeartbeats 2000000 in
theorem rsame9_any (a b : Db) (w : World) (hA : DdlAt w w.heap.size a) (hB : DdlAt w w.heap.size b) (hl : a.p.cols.length ≤ 1000000) (hl2 : b.p.cols.length ≤ 1000000) :
    Calls Tryz.prog 15 #[DV a, DV b] w fun e w' => e = .returned (.bool (sameD a b)) ∧ Below w.heap.size w w' := by
  obtain ⟨w0, hw0, hb0, hX, hY, hs0⟩ := box_dd w a b
  have Hw0 := Lib.hid hw0; clear hw0 hX hY hs0
  have Hb0 := Lib.hid hb0
  have HEq := Lib.hid (rsamec_any a.A b.A a.cap b.cap a.p.cols b.p.cols w0 (RowAt.to hA hb0) (RowAt.to hB hb0) hl hl2)
  rw [← Hw0.out] at HEq
  clear hA hB hb0
  have Hv : Hid (sameD a b = ((a.p.op == b.p.op) && ((a.p.tb.toList == b.p.tb.toList) && ((a.p.co.toList == b.p.co.toList) && ((a.p.to.toList == b.p.to.toList) && ((a.p.key.toList == b.p.key.toList) && ((a.p.tk == b.p.tk) && ((a.p.tm == b.p.tm) && ((a.p.nl == b.p.nl) && ((a.p.dk == b.p.dk) && ((a.p.dn == b.p.dn) && ((a.p.ds.toList == b.p.ds.toList) && tf (Pair eqC a.p.cols b.p.cols))))))))))))) := rfl
  generalize sameD a b = R at Hv ⊢
  generalize tf (Pair eqC a.p.cols b.p.cols) = e2 at HEq Hv
  cases h0 : (a.p.op == b.p.op)
  · rw [h0] at Hv
    go_enter Tryz.func15, Tryz.ntmps15
    go_wp2_with fail
    rw [Hw0.out]
    go_ret
    exact ⟨by rw [Hv.out]; rfl, Hb0.out⟩
  rw [h0] at Hv
  cases h1 : (a.p.tb.toList == b.p.tb.toList)
  · rw [h1] at Hv
    go_enter Tryz.func15, Tryz.ntmps15
    go_wp2_with fail
    rw [Hw0.out]
    go_ret
    exact ⟨by rw [Hv.out]; rfl, Hb0.out⟩
  rw [h1] at Hv
  cases h2 : (a.p.co.toList == b.p.co.toList)
  · rw [h2] at Hv
    go_enter Tryz.func15, Tryz.ntmps15
    go_wp2_with fail
    rw [Hw0.out]
    go_ret
    exact ⟨by rw [Hv.out]; rfl, Hb0.out⟩
  rw [h2] at Hv
  cases h3 : (a.p.to.toList == b.p.to.toList)
  · rw [h3] at Hv
    go_enter Tryz.func15, Tryz.ntmps15
    go_wp2_with fail
    rw [Hw0.out]
    go_ret
    exact ⟨by rw [Hv.out]; rfl, Hb0.out⟩
  rw [h3] at Hv
  cases h4 : (a.p.key.toList == b.p.key.toList)
  · rw [h4] at Hv
    go_enter Tryz.func15, Tryz.ntmps15
    go_wp2_with fail
    rw [Hw0.out]
    go_ret
    exact ⟨by rw [Hv.out]; rfl, Hb0.out⟩
  rw [h4] at Hv
  cases h5 : (a.p.tk == b.p.tk)
  · rw [h5] at Hv
    go_enter Tryz.func15, Tryz.ntmps15
    go_wp2_with fail
    rw [Hw0.out]
    go_ret
    exact ⟨by rw [Hv.out]; rfl, Hb0.out⟩
  rw [h5] at Hv
  cases h6 : (a.p.tm == b.p.tm)
  · rw [h6] at Hv
    go_enter Tryz.func15, Tryz.ntmps15
    go_wp2_with fail
    rw [Hw0.out]
    go_ret
    exact ⟨by rw [Hv.out]; rfl, Hb0.out⟩
  rw [h6] at Hv
  cases h7 : (a.p.nl == b.p.nl)
  · rw [h7] at Hv
    go_enter Tryz.func15, Tryz.ntmps15
    go_wp2_with fail
    rw [Hw0.out]
    go_ret
    exact ⟨by rw [Hv.out]; rfl, Hb0.out⟩
  rw [h7] at Hv
  cases h8 : (a.p.dk == b.p.dk)
  · rw [h8] at Hv
    go_enter Tryz.func15, Tryz.ntmps15
    go_wp2_with fail
    rw [Hw0.out]
    go_ret
    exact ⟨by rw [Hv.out]; rfl, Hb0.out⟩
  rw [h8] at Hv
  cases h9 : (a.p.dn == b.p.dn)
  · rw [h9] at Hv
    go_enter Tryz.func15, Tryz.ntmps15
    go_wp2_with fail
    rw [Hw0.out]
    go_ret
    exact ⟨by rw [Hv.out]; rfl, Hb0.out⟩
  rw [h9] at Hv
  cases h10 : (a.p.ds.toList == b.p.ds.toList)
  · rw [h10] at Hv
    go_enter Tryz.func15, Tryz.ntmps15
    go_wp2_with fail
    rw [Hw0.out]
    go_ret
    exact ⟨by rw [Hv.out]; rfl, Hb0.out⟩
  rw [h10] at Hv
  go_enter Tryz.func15, Tryz.ntmps15
  go_wp2_with fail
  refine HEq.out.mono ?_
  rintro e w1 ⟨rfl, hb1⟩
  rw [Hw0.out] at hb1
  have Hb1 := Lib.hid (bthen Hb0.out hb1); clear hb1
  go_wp2_with fail
  go_ret
  exact ⟨by rw [Hv.out]; rfl, Hb1.out⟩
end Go.Proofs.YtebldfnocpcddaaGreatDoor
