/-
  Contract of the laws' own lives.
-/
import Derived.Test.YtfkhldllehdopaaNameQuoC
namespace Go.Proofs.Ytfkhldllehdopaa
open Go.RowKit

theorem lives_quote (w : World) : Calls Try.prog 20 #[.string ⟨#[97, 34, 10]⟩] w fun e w' => e = .returned (.string ⟨#[34, 97, 92, 34, 92, 110, 34]⟩) ∧ Below w.heap.size w w' :=
  (quote_any ⟨#[97, 34, 10]⟩ w (by decide)).mono fun _ _ ⟨h1, h2⟩ => ⟨by rw [h1, show qt (bs ⟨#[97, 34, 10]⟩) = [34, 97, 92, 34, 92, 110, 34] by decide], h2⟩
theorem lives_read (w : World) : Calls Try.prog 11 #[.string ⟨#[97, 98, 45, 99]⟩] w fun e w' => e = .returned (.int .i64 2) ∧ w = w' :=
  (read_any ⟨#[97, 98, 45, 99]⟩ w (by decide)).mono fun _ _ ⟨h1, h2⟩ => ⟨by rw [h1, show rdN (bs ⟨#[97, 98, 45, 99]⟩) = 2 by decide]; rfl, h2⟩
theorem lives_right (w : World) : Calls Try.prog 9 #[.string ⟨#[97, 95, 49]⟩] w fun e w' => e = .returned (.bool true) ∧ w = w' :=
  (right_any ⟨#[97, 95, 49]⟩ w (by decide)).mono fun _ _ ⟨h1, h2⟩ => ⟨by rw [h1, show rightN (bs ⟨#[97, 95, 49]⟩) = true by decide], h2⟩
theorem lives_wrong (w : World) : Calls Try.prog 9 #[.string ⟨#[49, 97]⟩] w fun e w' => e = .returned (.bool false) ∧ w = w' :=
  (right_any ⟨#[49, 97]⟩ w (by decide)).mono fun _ _ ⟨h1, h2⟩ => ⟨by rw [h1, show rightN (bs ⟨#[49, 97]⟩) = false by decide], h2⟩

set_option maxRecDepth 100000 in
set_option maxHeartbeats 400000 in
theorem lives4_any (w : World) : Calls Try.prog 8 #[] w fun e w' => e = .returned (.bool true) ∧ Below w.heap.size w w' := by
  go_enter Try.func8, Try.ntmps8
  go_wp2_with fail
  refine (lives_quote _).mono ?_
  rintro e w1 ⟨rfl, hb1⟩
  go_wp2_with fail
  refine (lives_read _).mono ?_
  rintro e w2 ⟨rfl, rfl⟩
  go_wp2_with fail
  refine (lives_right _).mono ?_
  rintro e w2 ⟨rfl, rfl⟩
  go_wp2_with fail
  refine (lives_wrong _).mono ?_
  rintro e w2 ⟨rfl, rfl⟩
  go_wp2
  go_ret
  exact ⟨rfl, hb1⟩
end Go.Proofs.Ytfkhldllehdopaa
