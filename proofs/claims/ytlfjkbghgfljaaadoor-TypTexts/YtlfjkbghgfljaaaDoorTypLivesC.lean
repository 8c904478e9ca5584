/-
  The examples that each law of layer typ asks first.
-/
import Derived.Test.YtlfjkbghgfljaaaDoorTypJoinC
import Derived.Test.YtlfjkbghgfljaaaDoorTypCastC
namespace Go.Proofs.YtlfjkbghgfljaaaDoor
open Go.RowKit

theorem wfT {n : Int} (h : (Lit.int .i64 n).wf = true) : -9223372036854775808 ≤ n ∧ n < 9223372036854775808 := by
  have h2 : IntKind.i64.min ≤ n ∧ n ≤ 9223372036854775807 := by simpa [Lit.wf] using h
  have h3 : (-9223372036854775808 : Int) = IntKind.i64.min := by decide
  omega
theorem lives_j : joinR 1 0 3 5 = .tuple #[TT 3 11, .bool true] := by
  rw [joinR_yes 1 0 3 5 (by decide) (by decide)]
  rfl
theorem lives_c : castR 1 (-7) ⟨#[]⟩ 3 11 = .tuple #[VV 3 0 ⟨#[45, 55]⟩, .int .i64 0] := by
  have h1 : conS 1 (-7) ⟨#[]⟩ = ⟨#[45, 55]⟩ := by
    show (⟨(dz (-7)).toArray⟩ : ByteArray) = _
    rw [dz_neg (by decide), dn_lt (by decide)]; rfl
  have h2 : rightV 1 (-7) (bs ⟨#[]⟩) = true := by decide
  unfold castR
  rw [h1, h2]
  rfl
set_option maxRecDepth 100000 in
set_option maxHeartbeats 800000 in
theorem lives6_any (w : World) (ht : UTab w) : Calls Tryd.prog 9 #[] w fun e w' => e = .returned (.bool true) ∧ Below w.heap.size w w' := by
  have HT := Lib.hid ht; clear ht
  have H1 := Lib.hid (fun w => tjoin_any 1 0 3 5 w)
  rw [lives_j] at H1
  have H2 := Lib.hid (fun w h => tcast_any 1 (-7) ⟨#[]⟩ 3 11 w h (by decide) (by decide))
  rw [lives_c] at H2
  go_enter Tryd.func9, Tryd.ntmps9
  go_wp2_with fail
  refine (H1.out _).mono ?_
  rintro e w1 ⟨rfl, hb1⟩
  have HT1 := Lib.hid (HT.out.below hb1 (Nat.le_refl _))
  go_wp2_with fail
  refine (H2.out _ (HT1.out.alloc _)).mono ?_
  rintro e w2 ⟨rfl, hb2⟩
  have HB := Lib.hid ((Blk2.new w1 _ _ _ _ rfl).below hb2 (by simp))
  have hlt : w1.heap.size < w2.heap.size := by have := hb2.size; simp at this; omega
  have hb2' := hb1.trans ((below_new hb2).mono hb1.size)
  have hs1 := hb1.size
  clear hb1 hb2
  obtain ⟨c0, c1, f0, f1⟩ := HB.out
  go_wp2_with fail
  go_ret
  exact ⟨rfl, by go_grown⟩
end Go.Proofs.YtlfjkbghgfljaaaDoor
