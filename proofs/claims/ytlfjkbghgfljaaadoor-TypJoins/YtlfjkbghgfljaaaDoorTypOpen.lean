/-
  A parameter of type api.Type, opened and shut.
-/
import Derived.Test.YtlfjkbghgfljaaaDoorTypC
import Derived.Lib.SmallJoins
import Derived.ProofKit
import Derived.OpenShut
import Derived.ShutString
import Derived.ChangeOld
namespace Go.Proofs.YtlfjkbghgfljaaaDoor
open Go.ChangeShapes Go.WideShapes Go.ChangeAt Go.RowKit Go.Joins

theorem cellsT : Tryd.prog.cellsOf 23 = 2 := by kernel_rfl
theorem openT {H : Type} {enc : TypeId × Value → H} {W : World} {base : Nat} {v : Value} {d : DataW H} {p : List MemPlace} {sp : Nat → Bool}
    (hv : Value.okWide Tryd.prog W .any base 23 v) (h : DataW.Trod enc Tryd.prog W 0 sp true 23 v d p) :
    ∃ (k m : Int), v = TT k m ∧ d = .agg [.lit (.int .i64 k), .lit (.int .i64 m)] ∧ p = [] ∧ (Lit.int .i64 k).wf = true ∧ (Lit.int .i64 m).wf = true := by
  obtain ⟨v0, v1, y0, y1, m, rfl, rfl, rfl, h0, h1⟩ := open_agg2 Tryd.underlying23 (by kernel_rfl) cellsT hv h
  obtain ⟨k, e0, rfl, w0⟩ := DataW.trod_int Tryd.underlying3 h0
  obtain ⟨n, e1, rfl, w1⟩ := DataW.trod_int Tryd.underlying3 h1
  simp at e0 e1
  subst e0 e1
  exact ⟨k, n, rfl, rfl, rfl, w0, w1⟩
theorem shutT {H : Type} {enc : TypeId × Value → H} (W : World) (sp : Nat → Bool) {k m : Int} (w0 : (Lit.int .i64 k).wf = true) (w1 : (Lit.int .i64 m).wf = true) :
    DataW.Trod enc Tryd.prog W 0 sp true 23 (TT k m) (.agg [.lit (.int .i64 k), .lit (.int .i64 m)]) [] :=
  shut_agg2 (y0 := (.lit (.int .i64 k), [])) (y1 := (.lit (.int .i64 m), [])) Tryd.underlying23 (by kernel_rfl) cellsT
    ⟨1, by simp [DataW.trod, Tryd.underlying3, w0]⟩ ⟨1, by simp [DataW.trod, Tryd.underlying3, w1]⟩
end Go.Proofs.YtlfjkbghgfljaaaDoor
