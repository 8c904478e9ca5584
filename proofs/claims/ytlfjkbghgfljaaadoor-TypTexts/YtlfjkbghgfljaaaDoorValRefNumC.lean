/-
  Contract of the document's own Number.
-/
import Derived.Test.YtlfjkbghgfljaaaDoorValRefNumS0
import Derived.Test.YtlfjkbghgfljaaaDoorValRefNumS1
import Derived.Deep.CutBlock
import Derived.Deep.DeepCutAuto
namespace Go.Proofs.YtlfjkbghgfljaaaDoor
open Go.RowKit

set_option maxRecDepth 100000 in
set_option maxHeartbeats 1600000 in
theorem rnumber_any (s : ByteArray) (w : World) (hs : s.size ≤ 1000000) : Calls Tryd.prog 40 #[.string s] w fun e w' => e = .returned (numV (bs s)) ∧ Drew w w' := by
  by_cases h0 : s.size = 0
  · obtain rfl := is_empty s h0
    have Hv : Hid (numV (bs ⟨#[]⟩) = .tuple #[.int .i64 0, .int .i64 0, .int .i64 5]) := rfl
    go_enter Tryd.func40, Tryd.ntmps40
    go_wp2_with fail
    go_rounds 1
    go_ret3
    exact ⟨by rw [Hv.out]; rfl, Drew.refl _⟩
  have h0' : 0 < s.size := by omega
  have A0 := bs_at s 0 h0'
  by_cases h : s[0].toNat = 45
  · exact rnumber_s1 s w hs h0' (by simp; omega) (sgAt_yes (by rw [A0, u8_is (by omega) h]; rfl))
  · refine rnumber_s0 s w hs h0' (by simp; omega) (sgAt_no ?_)
    rw [A0]
    intro e
    exact h (by rw [Option.some.inj e]; rfl)
end Go.Proofs.YtlfjkbghgfljaaaDoor
