/-
  NamePaths: for every three strings the law returns true: the path of the first two, and the two names of the third, are what the document says, and lead back. No condition.
-/
import Derived.Test.YtfkhldllehdopaaNameLivesC
import Derived.Test.YtfkhldllehdopaaNamePathC
import Derived.ProofKit
import Derived.OpenShut
import Derived.ShutString
import Derived.ChangeOld
namespace Go.Proofs.Ytfkhldllehdopaa.namePaths
open Go.ChangeShapes Go.WideShapes Go.ChangeAt Go.RowKit
open Go.ChangeMaps (open_string shut_string)

set_option maxRecDepth 100000 in
set_option maxHeartbeats 1600000 in
theorem walk (a b s : ByteArray) (w : World) (ha : a.size ≤ maxLen) (hb : b.size ≤ maxLen) (hs : s.size ≤ maxLen) :
    Calls Try.prog 7 #[.string a, .string b, .string s] w fun e w' => e = .returned (.bool true) ∧ Below w.heap.size w w' := by
  unfold maxLen at ha hb hs
  by_cases h : 60 < a.size
  · have hd : decide (60 < (a.size : Int)) = true := by simp; omega
    go_enter Try.func7, Try.ntmps7
    go_wp2_with (go_at_call 8; refine (lives4_any _).mono ?_; rintro e w1 ⟨rfl, hb1⟩)
    go_ret
    exact ⟨rfl, hb1⟩
  have hd : decide (60 < (a.size : Int)) = false := by simp; omega
  by_cases h2 : 60 < b.size
  · have hd2 : decide (60 < (b.size : Int)) = true := by simp; omega
    go_enter Try.func7, Try.ntmps7
    go_wp2_with (go_at_call 8; refine (lives4_any _).mono ?_; rintro e w1 ⟨rfl, hb1⟩)
    go_ret
    exact ⟨rfl, hb1⟩
  have hd2 : decide (60 < (b.size : Int)) = false := by simp; omega
  by_cases h3 : 60 < s.size
  · have hd3 : decide (60 < (s.size : Int)) = true := by simp; omega
    go_enter Try.func7, Try.ntmps7
    go_wp2_with (go_at_call 8; refine (lives4_any _).mono ?_; rintro e w1 ⟨rfl, hb1⟩)
    go_ret
    exact ⟨rfl, hb1⟩
  have hd3 : decide (60 < (s.size : Int)) = false := by simp; omega
  have H2 := Lib.hid (fun w => split_any s w (by omega))
  have H3 := Lib.hid (fun w => rsplit_any s w (by omega))
  obtain ⟨X, Y, B, hV⟩ : ∃ (X Y : ByteArray) (B : Bool), spV (bs s) = .tuple #[.string X, .string Y, .bool B] := ⟨_, _, _, rfl⟩
  rw [hV] at H2 H3
  clear hV
  have dB : (B == B) = true := by simp
  have dB2 : (B != B) = false := by simp
  by_cases hok : rightN (bs a) = true ∧ rightN (bs b) = true
  · obtain ⟨hA, hB⟩ := hok
    have H1 := Lib.hid (fun w => path_yes a b w (by omega) (by omega) hA hB)
    have H4 := Lib.hid (fun w => rright_as a true w (by omega) hA)
    have H5 := Lib.hid (fun w => rright_as b true w (by omega) hB)
    have hz : (a ++ ⟨#[46]⟩ : ByteArray).size = a.size + 1 := ByteArray.size_append
    have hz2 : (a ++ ⟨#[46]⟩ ++ b : ByteArray).size = a.size + 1 + b.size := by rw [ByteArray.size_append, hz]
    have hadd := fun w' => run_string_add_sum (P := Try.prog) (w := w') a ⟨#[46]⟩ (by show a.size + 1 ≤ _; omega)
    have hadd2 := fun w' => run_string_add_sum (P := Try.prog) (w := w') (a ++ ⟨#[46]⟩) b (by rw [hz]; omega)
    have H6 := Lib.hid (fun w => split_any (a ++ ⟨#[46]⟩ ++ b) w (by omega))
    rw [spV_yes (a := a) (b := b) (sp_yes (a := bs a) (b := bs b) (by rw [bs_append, bs_append, List.append_assoc]; rfl) hA hB)] at H6
    clear hA hB
    generalize (a ++ ⟨#[46]⟩ ++ b : ByteArray) = p at H1 H6 hadd2 hz2
    go_enter Try.func7, Try.ntmps7
    go_wp2_with fail
    refine (lives4_any _).mono ?_
    rintro e w1 ⟨rfl, hb1⟩
    go_wp2_with fail
    refine (H1.out _).mono ?_
    rintro e w2 ⟨rfl, rfl⟩
    go_wp2_with fail
    refine (H2.out _).mono ?_
    rintro e w3 ⟨rfl, hd3⟩
    go_wp2_with fail
    refine (H3.out _).mono ?_
    rintro e w4 ⟨rfl, hd4⟩
    go_wp2_with fail
    refine (H4.out _).mono ?_
    rintro e w5 ⟨rfl, rfl⟩
    go_wp2_with fail
    refine (H5.out _).mono ?_
    rintro e w5 ⟨rfl, rfl⟩
    go_wp2_with fail
    refine (H6.out _).mono ?_
    rintro e w6 ⟨rfl, hd6⟩
    go_wp2
    go_ret
    exact ⟨rfl, hb1.trans (((hd3.trans hd4).trans hd6).below _)⟩
  · have hor : rightN (bs a) = false ∨ rightN (bs b) = false := by
      cases h1 : rightN (bs a)
      · exact .inl rfl
      · cases h2 : rightN (bs b)
        · exact .inr rfl
        · exact absurd ⟨h1, h2⟩ hok
    have H1 := Lib.hid (fun w => path_no a b w (by omega) (by omega) hor)
    have H6 := Lib.hid (fun w => split_any ⟨#[]⟩ w (by decide))
    rw [spV_no (sp_none (l := bs ⟨#[]⟩) (by simp [bs]))] at H6
    cases hA : rightN (bs a)
    · have H4 := Lib.hid (fun w => rright_as a false w (by omega) hA)
      clear hA hok hor
      go_enter Try.func7, Try.ntmps7
      go_wp2_with fail
      refine (lives4_any _).mono ?_
      rintro e w1 ⟨rfl, hb1⟩
      go_wp2_with fail
      refine (H1.out _).mono ?_
      rintro e w2 ⟨rfl, rfl⟩
      go_wp2_with fail
      refine (H2.out _).mono ?_
      rintro e w3 ⟨rfl, hd3⟩
      go_wp2_with fail
      refine (H3.out _).mono ?_
      rintro e w4 ⟨rfl, hd4⟩
      go_wp2_with fail
      refine (H4.out _).mono ?_
      rintro e w5 ⟨rfl, rfl⟩
      go_wp2_with fail
      refine (H6.out _).mono ?_
      rintro e w6 ⟨rfl, hd6⟩
      go_wp2
      go_ret
      exact ⟨rfl, hb1.trans (((hd3.trans hd4).trans hd6).below _)⟩
    · have hB : rightN (bs b) = false := by
        rcases hor with h | h
        · rw [hA] at h; cases h
        · exact h
      have H4 := Lib.hid (fun w => rright_as a true w (by omega) hA)
      have H5 := Lib.hid (fun w => rright_as b false w (by omega) hB)
      clear hA hB hok hor
      go_enter Try.func7, Try.ntmps7
      go_wp2_with fail
      refine (lives4_any _).mono ?_
      rintro e w1 ⟨rfl, hb1⟩
      go_wp2_with fail
      refine (H1.out _).mono ?_
      rintro e w2 ⟨rfl, rfl⟩
      go_wp2_with fail
      refine (H2.out _).mono ?_
      rintro e w3 ⟨rfl, hd3⟩
      go_wp2_with fail
      refine (H3.out _).mono ?_
      rintro e w4 ⟨rfl, hd4⟩
      go_wp2_with fail
      refine (H4.out _).mono ?_
      rintro e w5 ⟨rfl, rfl⟩
      go_wp2_with fail
      refine (H5.out _).mono ?_
      rintro e w5 ⟨rfl, rfl⟩
      go_wp2_with fail
      refine (H6.out _).mono ?_
      rintro e w6 ⟨rfl, hd6⟩
      go_wp2
      go_ret
      exact ⟨rfl, hb1.trans (((hd3.trans hd4).trans hd6).below _)⟩
theorem own : ownKnob Try.prog.godebug = none := by kernel_rfl
theorem laidOut : laidOutB Try.prog = true := by kernel_rfl
set_option maxRecDepth 100000 in
theorem lifted (os : Os) (started : os.Started) (H : Type) (enc : TypeId × Value → H) :
    ReturnsInHanded {} Try.checked os 7 .any (Rows.namePathsSpec.pre6 enc Try.prog Try.f7 Rows.namePathsRow.domain false) (Rows.namePathsSpec.post enc Try.prog Try.f7 false true false false) := by
  refine returnsInHanded_of_change (C := Try.checked) own started (by kernel_rfl) Try.func7
    (ChangeSpec.witness6 (enc := enc) (C := Try.checked) false ⟨#[], #[.string ByteArray.empty, .string ByteArray.empty, .string ByteArray.empty], []⟩ 8 (by kernel_rfl) (by kernel_rfl) (by kernel_rfl) (by kernel_rfl)) ?_
  intro W base args ds gs before hval0 hW hcnd _
  have hval : ∀ (j : Nat) t v, Try.f7.params[j]? = some t → args[j]? = some v → Value.okWide Try.prog W .any base t v := hval0
  have hW' := hW
  obtain ⟨p, q, hA0, hV, rfl, hfz, hnd⟩ := hW
  have hA : DataW.TrodAll enc Try.prog W 0 (fun _ => true) true Try.f7.params.toList args.toList ds p := hA0
  rw [Try.params7] at hA hval
  obtain ⟨v0, vs0, d0, ds0, p0, q0, hargs, rfl, rfl, h0, r0⟩ := trodAll_cons hA
  obtain ⟨v1, vs1, d1, ds1, p1, q1, rfl, rfl, rfl, h1, r1⟩ := trodAll_cons r0
  obtain ⟨v2, vs2, d2, ds2, p2, q2, rfl, rfl, rfl, h2, r2⟩ := trodAll_cons r1
  obtain ⟨rfl, rfl, rfl⟩ := trodAll_nil r2
  obtain rfl : args = #[v0, v1, v2] := by cases args; simp_all
  obtain ⟨rfl, rfl⟩ := trodVars_none hV
  obtain ⟨a0, rfl, rfl, rfl, w0⟩ := open_string Try.underlying9 (hval 0 9 v0 rfl rfl) h0
  obtain ⟨a1, rfl, rfl, rfl, w1⟩ := open_string Try.underlying9 (hval 1 9 v1 rfl rfl) h1
  obtain ⟨a2, rfl, rfl, rfl, w2⟩ := open_string Try.underlying9 (hval 2 9 v2 rfl rfl) h2
  clear hA0 hval0
  refine (walk a0 a1 a2 W w0 w1 w2).mono fun e W' ⟨he, bel⟩ => ?_
  subst he
  exact ⟨_, rfl, _, _, _, [], _, [], hW', trodAll_mk1 (shut_bool Try.underlying4 _), (trodAll_cons_mk (shut_string Try.underlying9 w0) (trodAll_cons_mk (shut_string Try.underlying9 w1) (trodAll_cons_mk (shut_string Try.underlying9 w2) trodAll_mk0))), rfl, bel.frame _, fun h => by cases h⟩

theorem over : Rows.namePathsRow.holds Try.pinned (OpenSpec.ofChange Rows.namePathsSpec) :=
  OpenClaim.holds_of_wide 7 Try.f7 rfl rfl rfl rfl rfl rfl rfl ⟨rfl, rfl, rfl, rfl, rfl⟩ rfl rfl rfl rfl rfl (by kernel_rfl) Try.func7 (by kernel_rfl)
    (of_decide_eq_true (by kernel_rfl)) (by unfold Func.isWrapper; first | (rw [if_pos (by decide +kernel)]; kernel_rfl) | (rw [if_neg (by decide +kernel)]; exact ⟨rfl, rfl⟩))
    (fun os started H enc _ => lifted os started H enc)

/-- the given statement -/
theorem proved : Rows.NamePathsSaid := over
#print axioms proved
end Go.Proofs.Ytfkhldllehdopaa.namePaths
