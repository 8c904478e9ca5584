/-
  NameBack: for every two strings the law returns true: what is quoted is unquoted, whatever stands behind it, and whatever is unquoted is just the quoted string of the result. No condition.
-/
import Derived.Test.YtfkhldllehdopaaNameLivesC
import Derived.Test.YtfkhldllehdopaaNameUnqC
import Derived.Test.YtfkhldllehdopaaQuietB
import Derived.ProofKit
import Derived.OpenShut
import Derived.ShutString
import Derived.ChangeOld
namespace Go.Proofs.Ytfkhldllehdopaa.nameBack
open Go.ChangeShapes Go.WideShapes Go.ChangeAt Go.RowKit
open Go.ChangeMaps (open_string shut_string)

set_option maxRecDepth 100000 in
set_option maxHeartbeats 1600000 in
theorem walk (s m : ByteArray) (w : World) (hs : s.size ≤ maxLen) (hm : m.size ≤ maxLen) :
    Calls Try.prog 6 #[.string s, .string m] w fun e w' => e = .returned (.bool true) ∧ Below w.heap.size w w' := by
  unfold maxLen at hs hm
  by_cases h : 100 < s.size
  · have hd : decide (100 < (s.size : Int)) = true := by simp; omega
    go_enter Try.func6, Try.ntmps6
    go_wp2_with (go_at_call 8; refine (lives4_any _).mono ?_; rintro e w1 ⟨rfl, hb1⟩)
    go_ret
    exact ⟨rfl, hb1⟩
  have hd : decide (100 < (s.size : Int)) = false := by simp; omega
  by_cases h2 : 100 < m.size
  · have hd2 : decide (100 < (m.size : Int)) = true := by simp; omega
    go_enter Try.func6, Try.ntmps6
    go_wp2_with (go_at_call 8; refine (lives4_any _).mono ?_; rintro e w1 ⟨rfl, hb1⟩)
    go_ret
    exact ⟨rfl, hb1⟩
  have hd2 : decide (100 < (m.size : Int)) = false := by simp; omega
  have H1 := Lib.hid (fun w => quote_any s w (by omega))
  have hQ : (⟨(qt (bs s)).toArray⟩ : ByteArray).size ≤ 402 := by
    have := qb_len (bs s)
    rw [bs_length] at this
    rw [ba_size, qt_len]; omega
  have HQ : Hid (bs ⟨(qt (bs s)).toArray⟩ = qt (bs s)) := rfl
  generalize (⟨(qt (bs s)).toArray⟩ : ByteArray) = Q at H1 hQ HQ
  have hadd := fun w' => run_string_add_sum (P := Try.prog) (w := w') Q m (by omega)
  have hsz : (Q ++ m).size = Q.size + m.size := ByteArray.size_append
  have H2 := Lib.hid (fun w => unquote_any (Q ++ m) w (by omega))
  have hV : uqV (bs (Q ++ m)) = .tuple #[.string s, .int .i64 Q.size, .bool true] := by
    have e : uq (bs (Q ++ m)) = (bs s, Q.size, true) := by
      rw [uq_yes (t := bs s) (r := bs m) (by rw [bs_append, HQ.out]), ← HQ.out, bs_length]
    rw [uqV_yes e]
    rfl
  rw [hV] at H2; clear hV
  have H3 := Lib.hid (fun w => unquote_any m w (by omega))
  have d0 : (s.toList == s.toList) = true := by simp
  obtain ⟨⟨u, n, is⟩, hU⟩ : ∃ r, uq (bs m) = r := ⟨_, rfl⟩
  cases is
  · obtain ⟨rfl, rfl⟩ := uq_false hU
    rw [uqV_no hU] at H3
    go_enter Try.func6, Try.ntmps6
    go_wp2_with fail
    refine (lives4_any _).mono ?_
    rintro e w1 ⟨rfl, hb1⟩
    go_wp2_with fail
    refine (H1.out _).mono ?_
    rintro e w2 ⟨rfl, hb2⟩
    go_wp2_with fail
    refine (H2.out _).mono ?_
    rintro e w3 ⟨rfl, hb3⟩
    go_wp2_with fail
    refine (H3.out _).mono ?_
    rintro e w4 ⟨rfl, hb4⟩
    go_wp2_with fail
    go_quiet (fail)
    go_wp2
    go_ret
    exact ⟨rfl, below_drewN (hb1.trans ((hb2.trans ((hb3.trans (hb4.mono hb3.size)).mono hb2.size)).mono hb1.size)) _⟩
  · obtain ⟨hn, hu⟩ := uq_back hU
    rw [bs_length] at hn
    rw [uqV_yes hU] at H3
    have hul : u.length ≤ n := by
      have h1 : (qt u).length ≤ n := by rw [hu]; exact List.length_take_le _ _
      have h2 : ∀ t : List UInt8, t.length ≤ (qb t).length := fun t => by
        induction t with
        | nil => simp
        | cons a r ih => have := (frm_len a).2; rw [qb_cons, List.length_append, List.length_cons]; omega
      have h3 := h2 u
      rw [qt_len] at h1; omega
    have H4 := Lib.hid (fun w => quote_any ⟨u.toArray⟩ w (by rw [ba_size]; omega))
    rw [bs_mk, show (⟨(qt u).toArray⟩ : ByteArray) = m.extract 0 n from bs_eq (by rw [bs_front, ← hu]; rfl)] at H4
    generalize (⟨u.toArray⟩ : ByteArray) = U at H3 H4
    have hnI : (n : Int) ≤ (m.size : Int) := by omega
    have hnI0 : (0 : Int) ≤ (n : Int) := by omega
    have d1 : ((m.extract 0 n).toList == (m.extract 0 n).toList) = true := by simp
    clear hu hul hU
    go_enter Try.func6, Try.ntmps6
    go_wp2_with fail
    refine (lives4_any _).mono ?_
    rintro e w1 ⟨rfl, hb1⟩
    go_wp2_with fail
    refine (H1.out _).mono ?_
    rintro e w2 ⟨rfl, hb2⟩
    go_wp2_with fail
    refine (H2.out _).mono ?_
    rintro e w3 ⟨rfl, hb3⟩
    go_wp2_with fail
    refine (H3.out _).mono ?_
    rintro e w4 ⟨rfl, hb4⟩
    go_wp2_with fail
    have hB : Below w.heap.size w w4 := hb1.trans ((hb2.trans ((hb3.trans (hb4.mono hb3.size)).mono hb2.size)).mono hb1.size)
    have hBs := hB.size
    clear hb1 hb2 hb3 hb4
    have e0 : ((Q.size : Int) == (Q.size : Int)) = true := by simp
    have hne : Nonempty (BelowBy w4.heap.size w4) := ⟨⟨w4, Below.refl _ _⟩⟩
    refine wp_region_below w4.heap.size (by kernel_rfl) (by kernel_rfl) ?_
    repeat (
      refine wpQuiet_step (fun K hK => ?_)
      go_simp
      first
        | (refine hK _ ?_; clear hK K)
        | (apply Exists.intro
           refine ⟨fun p => ?_, hK _ ?_⟩
           exact (H4.out _).mono fun e w5 ⟨he, hb⟩ => ⟨he, p.step (Nat.le_refl _) hb⟩
           clear hK K))
    refine wpQuiet_nil ?_
    rintro _ ⟨p, rfl⟩
    go_wp2
    go_ret
    exact ⟨rfl, hB.trans (p.h.mono hBs)⟩
theorem own : ownKnob Try.prog.godebug = none := by kernel_rfl
theorem laidOut : laidOutB Try.prog = true := by kernel_rfl
set_option maxRecDepth 100000 in
theorem lifted (os : Os) (started : os.Started) (H : Type) (enc : TypeId × Value → H) :
    ReturnsInHanded {} Try.checked os 6 .any (Rows.nameBackSpec.pre6 enc Try.prog Try.f6 Rows.nameBackRow.domain false) (Rows.nameBackSpec.post enc Try.prog Try.f6 false true false false) := by
  refine returnsInHanded_of_change (C := Try.checked) own started (by kernel_rfl) Try.func6
    (ChangeSpec.witness6 (enc := enc) (C := Try.checked) false ⟨#[], #[.string ByteArray.empty, .string ByteArray.empty], []⟩ 8 (by kernel_rfl) (by kernel_rfl) (by kernel_rfl) (by kernel_rfl)) ?_
  intro W base args ds gs before hval0 hW hcnd _
  have hval : ∀ (j : Nat) t v, Try.f6.params[j]? = some t → args[j]? = some v → Value.okWide Try.prog W .any base t v := hval0
  have hW' := hW
  obtain ⟨p, q, hA0, hV, rfl, hfz, hnd⟩ := hW
  have hA : DataW.TrodAll enc Try.prog W 0 (fun _ => true) true Try.f6.params.toList args.toList ds p := hA0
  rw [Try.params6] at hA hval
  obtain ⟨v0, vs0, d0, ds0, p0, q0, hargs, rfl, rfl, h0, r0⟩ := trodAll_cons hA
  obtain ⟨v1, vs1, d1, ds1, p1, q1, rfl, rfl, rfl, h1, r1⟩ := trodAll_cons r0
  obtain ⟨rfl, rfl, rfl⟩ := trodAll_nil r1
  obtain rfl : args = #[v0, v1] := by cases args; simp_all
  obtain ⟨rfl, rfl⟩ := trodVars_none hV
  obtain ⟨a0, rfl, rfl, rfl, w0⟩ := open_string Try.underlying9 (hval 0 9 v0 rfl rfl) h0
  obtain ⟨a1, rfl, rfl, rfl, w1⟩ := open_string Try.underlying9 (hval 1 9 v1 rfl rfl) h1
  clear hA0 hval0
  refine (walk a0 a1 W w0 w1).mono fun e W' ⟨he, bel⟩ => ?_
  subst he
  exact ⟨_, rfl, _, _, _, [], _, [], hW', trodAll_mk1 (shut_bool Try.underlying4 _), (trodAll_cons_mk (shut_string Try.underlying9 w0) (trodAll_cons_mk (shut_string Try.underlying9 w1) trodAll_mk0)), rfl, bel.frame _, fun h => by cases h⟩

theorem over : Rows.nameBackRow.holds Try.pinned (OpenSpec.ofChange Rows.nameBackSpec) :=
  OpenClaim.holds_of_wide 6 Try.f6 rfl rfl rfl rfl rfl rfl rfl ⟨rfl, rfl, rfl, rfl, rfl⟩ rfl rfl rfl rfl rfl (by kernel_rfl) Try.func6 (by kernel_rfl)
    (of_decide_eq_true (by kernel_rfl)) (by unfold Func.isWrapper; first | (rw [if_pos (by decide +kernel)]; kernel_rfl) | (rw [if_neg (by decide +kernel)]; exact ⟨rfl, rfl⟩))
    (fun os started H enc _ => lifted os started H enc)

/-- the given statement -/
theorem proved : Rows.NameBackSaid := over
#print axioms proved
end Go.Proofs.Ytfkhldllehdopaa.nameBack
