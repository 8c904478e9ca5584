/-
  WordFits: for every int64 and every int the law returns true: which numbers fit how many bits, and to which number one is cut, is what the page says. No condition.
-/
import Derived.Test.YtnjcpfbkcaeodaaWordShortC
import Derived.ProofKit
import Derived.OpenShut
import Derived.ShutString
import Derived.ChangeOld
namespace Go.Proofs.Ytnjcpfbkcaeodaa.wordFits
open Go.ChangeShapes Go.WideShapes Go.ChangeAt Go.RowKit
open Go.ChangeMaps (open_string shut_string)

set_option maxRecDepth 100000 in
set_option maxHeartbeats 400000 in
theorem walk_no (n b : Int) (w : World) (h1 : b < 1 ∨ 64 < b) :
    Calls Try.prog 7 #[.int .i64 n, .int .i64 b] w fun e w' => e = .returned (.bool true) ∧ Below w.heap.size w w' := by
  rcases h1 with h | h
  · have hd : decide (b < 1) = true := by simp; omega
    go_enter Try.func7, Try.ntmps7
    go_wp2_with (first
      | (go_at_call 9; refine (lives_any _).mono ?_; rintro e w1 ⟨rfl, hb1⟩)
      | (go_at_call 27; refine (low_no _ _ _ (.inl h)).mono ?_; rintro e w2 ⟨rfl, rfl⟩)
      | (go_at_call 30; refine (rlow_no _ _ _ (.inl h)).mono ?_; rintro e w2 ⟨rfl, rfl⟩)
      | (go_at_call 28; refine (fits_no _ _ _ (.inl h)).mono ?_; rintro e w2 ⟨rfl, rfl⟩)
      | (go_at_call 29; refine (rfits_no _ _ _ (.inl h)).mono ?_; rintro e w2 ⟨rfl, rfl⟩))
    go_ret
    exact ⟨rfl, hb1⟩
  · have hd : decide (b < 1) = false := by simp; omega
    have hd2 : decide (64 < b) = true := by simp; omega
    go_enter Try.func7, Try.ntmps7
    go_wp2_with (first
      | (go_at_call 9; refine (lives_any _).mono ?_; rintro e w1 ⟨rfl, hb1⟩)
      | (go_at_call 27; refine (low_no _ _ _ (.inr h)).mono ?_; rintro e w2 ⟨rfl, rfl⟩)
      | (go_at_call 30; refine (rlow_no _ _ _ (.inr h)).mono ?_; rintro e w2 ⟨rfl, rfl⟩)
      | (go_at_call 28; refine (fits_no _ _ _ (.inr h)).mono ?_; rintro e w2 ⟨rfl, rfl⟩)
      | (go_at_call 29; refine (rfits_no _ _ _ (.inr h)).mono ?_; rintro e w2 ⟨rfl, rfl⟩))
    go_ret
    exact ⟨rfl, hb1⟩

theorem fits_low (n : Int) (b : Nat) (h : 1 ≤ b) : fitsB (low n b) b = true := by unfold fitsB; rw [low_low n b h]; simp
theorem low_is (n : Int) (b : Nat) : (low n b == n) = fitsB n b := rfl

set_option maxRecDepth 100000 in
set_option maxHeartbeats 400000 in
theorem walk_yes (n : Int) (b : Nat) (w : World) (h1 : 1 ≤ b) (h2 : b ≤ 64) (b1 : -9223372036854775808 ≤ n) (b2 : n < 9223372036854775808) :
    Calls Try.prog 7 #[.int .i64 n, .int .i64 b] w fun e w' => e = .returned (.bool true) ∧ Below w.heap.size w w' := by
  have hd : decide ((b : Int) < 1) = false := by simp; omega
  have hd2 : decide (64 < (b : Int)) = false := by simp; omega
  have e1 := fits_low n b h1
  have e2 := low_is n b
  have e3 := low_low n b h1
  go_enter Try.func7, Try.ntmps7
  go_wp2_with (first
      | (go_at_call 9; refine (lives_any _).mono ?_; rintro e w1 ⟨rfl, hb1⟩)
      | (go_at_call 27; refine (low_any _ _ _ h1 h2).mono ?_; rintro e w2 ⟨rfl, rfl⟩)
      | (go_at_call 30; refine (rlow_any _ _ _ h1 h2 b1 b2).mono ?_; rintro e w2 ⟨rfl, rfl⟩)
      | (go_at_call 28; refine (fits_any _ _ _ h1 h2).mono ?_; rintro e w2 ⟨rfl, rfl⟩)
      | (go_at_call 29; refine (rfits_any _ _ _ h1 h2 b1 b2).mono ?_; rintro e w2 ⟨rfl, rfl⟩))
  go_ret
  exact ⟨rfl, hb1⟩

theorem walk (n b : Int) (w : World) (w0 : (Lit.int .i64 n).wf = true) (_ : (Lit.int .i64 b).wf = true) :
    Calls Try.prog 7 #[.int .i64 n, .int .i64 b] w fun e w' => e = .returned (.bool true) ∧ Below w.heap.size w w' := by
  have b0 := bounds_i64 w0
  by_cases h : b < 1 ∨ 64 < b
  · exact walk_no n b w h
  · obtain ⟨k, rfl⟩ := Int.eq_ofNat_of_zero_le (a := b) (by omega)
    exact walk_yes n k w (by omega) (by omega) (by omega) (by omega)

theorem own : ownKnob Try.prog.godebug = none := by kernel_rfl
theorem laidOut : laidOutB Try.prog = true := by kernel_rfl
set_option maxRecDepth 100000 in
theorem lifted (os : Os) (started : os.Started) (H : Type) (enc : TypeId × Value → H) :
    ReturnsInHanded {} Try.checked os 7 .any (Rows.wordFitsSpec.pre6 enc Try.prog Try.f7 Rows.wordFitsRow.domain false) (Rows.wordFitsSpec.post enc Try.prog Try.f7 false true false false) := by
  refine returnsInHanded_of_change (C := Try.checked) own started (by kernel_rfl) Try.func7
    (ChangeSpec.witness6 (enc := enc) (C := Try.checked) false ⟨#[], #[.int .i64 0, .int .i64 0], []⟩ 8 (by kernel_rfl) (by kernel_rfl) (by kernel_rfl) (by kernel_rfl)) ?_
  intro W base args ds gs before hval0 hW hcnd _
  have hval : ∀ (j : Nat) t v, Try.f7.params[j]? = some t → args[j]? = some v → Value.okWide Try.prog W .any base t v := hval0
  have hW' := hW
  obtain ⟨p, q, hA0, hV, rfl, hfz, hnd⟩ := hW
  have hA : DataW.TrodAll enc Try.prog W 0 (fun _ => true) true Try.f7.params.toList args.toList ds p := hA0
  rw [Try.params7] at hA hval
  obtain ⟨v0, vs0, d0, ds0, p0, q0, hargs, rfl, rfl, h0, r0⟩ := trodAll_cons hA
  obtain ⟨v1, vs1, d1, ds1, p1, q1, rfl, rfl, rfl, h1, r1⟩ := trodAll_cons r0
  obtain ⟨rfl, rfl, rfl⟩ := trodAll_nil r1
  obtain rfl : args = #[v0, v1] := by cases args; simp_all
  obtain ⟨rfl, rfl⟩ := trodVars_none hV
  obtain ⟨a0, rfl, rfl, rfl, w0⟩ := open_int Try.underlying2 (hval 0 2 v0 rfl rfl) h0
  obtain ⟨a1, rfl, rfl, rfl, w1⟩ := open_int Try.underlying3 (hval 1 3 v1 rfl rfl) h1
  clear hA0 hval0
  refine (walk a0 a1 W w0 w1).mono fun e W' ⟨he, bel⟩ => ?_
  subst he
  exact ⟨_, rfl, _, _, _, [], _, [], hW', trodAll_mk1 (shut_bool Try.underlying4 _), (trodAll_cons_mk (shut_int Try.underlying2 w0) (trodAll_cons_mk (shut_int Try.underlying3 w1) trodAll_mk0)), rfl, bel.frame _, fun h => by cases h⟩

theorem over : Rows.wordFitsRow.holds Try.pinned (OpenSpec.ofChange Rows.wordFitsSpec) :=
  OpenClaim.holds_of_wide 7 Try.f7 rfl rfl rfl rfl rfl rfl rfl ⟨rfl, rfl, rfl, rfl, rfl⟩ rfl rfl rfl rfl rfl (by kernel_rfl) Try.func7 (by kernel_rfl)
    (of_decide_eq_true (by kernel_rfl)) (by unfold Func.isWrapper; first | (rw [if_pos (by decide +kernel)]; kernel_rfl) | (rw [if_neg (by decide +kernel)]; exact ⟨rfl, rfl⟩))
    (fun os started H enc _ => lifted os started H enc)

/-- the given statement -/
theorem proved : Rows.WordFitsSaid := over
#print axioms proved
end Go.Proofs.Ytnjcpfbkcaeodaa.wordFits
