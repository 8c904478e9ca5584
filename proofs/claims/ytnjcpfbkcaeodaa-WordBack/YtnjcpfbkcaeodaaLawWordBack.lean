/-
  WordBack: for every uint32, uint64 and string the law returns true: what is put is got, whatever stands behind short bytes; whatever is read has just the bytes that it was read of. No condition.
-/
import Derived.Test.YtnjcpfbkcaeodaaFixC
import Derived.Test.YtnjcpfbkcaeodaaAllC
import Derived.Test.YtnjcpfbkcaeodaaBackMath
import Derived.ProofKit
import Derived.OpenShut
import Derived.ShutString
import Derived.ChangeOld
namespace Go.Proofs.Ytnjcpfbkcaeodaa.wordBack
open Go.ChangeShapes Go.WideShapes Go.ChangeAt Go.RowKit
open Go.ChangeMaps (open_string shut_string)

theorem get32_back (n : Nat) (w : World) (hn : n < 4294967296) :
    Calls Try.prog 10 #[.string ⟨(le 4 n).toArray⟩] w fun e w' => e = .returned (.tuple #[.int .u32 n, .int .i64 0]) ∧ w = w' := by
  have h := get32_any ⟨(le 4 n).toArray⟩ w (by show (le 4 n).toArray.size ≤ _; rw [List.size_toArray, le_length]; omega)
  rw [bs_mk, get_le 4 n (by simp only [Nat.reducePow]; exact hn)] at h
  exact h
theorem get64_back (n : Nat) (w : World) (hn : n < 18446744073709551616) :
    Calls Try.prog 12 #[.string ⟨(le 8 n).toArray⟩] w fun e w' => e = .returned (.tuple #[.int .u64 n, .int .i64 0]) ∧ w = w' := by
  have h := get64_any ⟨(le 8 n).toArray⟩ w (by show (le 8 n).toArray.size ≤ _; rw [List.size_toArray, le_length]; omega)
  rw [bs_mk, get_le 8 n (by simp only [Nat.reducePow]; exact hn)] at h
  exact h
theorem short_one (n : Nat) (w : World) (hn : n < 18446744073709551616) :
    Calls Try.prog 16 #[.slice (some ⟨w.heap.size, 0, none⟩) 1 1] (w.alloc (.cells #[.int .u64 n] 23)) fun e w' =>
      e = .returned (.string ⟨(varint n).toArray⟩) ∧ Below w.heap.size w w' := by
  have hA : NumsAt (w.alloc (.cells #[.int .u64 n] 23)) (w.alloc (.cells #[.int .u64 n] 23)).heap.size (some ⟨w.heap.size, 0, none⟩) [n] := fun _ =>
    ⟨w.heap.size, 0, rfl, by simp, fun j hj => by
      match j, hj with
      | 0, hj => simp⟩
  refine (short_any _ 1 [n] _ hA (by simpa using hn) (by simp)).mono fun e w' ⟨he, hb⟩ => ⟨?_, ?_⟩
  · rw [he]; simp [shorts]
  · exact ((Below.refl _ _).alloc (Nat.le_refl _) _).trans (hb.mono (by simp))
theorem long_back (n : Nat) (s : ByteArray) (w : World) (hn : n < 18446744073709551616) (hs : s.size ≤ 1000) :
    Calls Try.prog 18 #[.string (⟨(varint n).toArray⟩ ++ s)] w fun e w' => e = .returned (.tuple #[.int .u64 n, .int .i64 (varint n).length, .int .i64 0]) ∧ w = w' := by
  have h10 := varint_ten n hn
  have hb : bs (⟨(varint n).toArray⟩ ++ s) = varint n ++ bs s := by simp [bs, ByteArray.data_append]
  have h := long_any (⟨(varint n).toArray⟩ ++ s) w (by rw [← bs_length, hb, List.length_append, bs_length]; omega)
  rw [hb, long_varint n _ hn] at h
  exact h

theorem len_of (s : ByteArray) : (all (bs s)).1.length ≤ s.size := by
  rw [← bs_length]
  suffices h : ∀ f (l : List UInt8), l.length ≤ f → (all l).1.length ≤ l.length from h _ (bs s) (Nat.le_refl _)
  intro f
  induction f with
  | zero => intro l h; obtain rfl : l = [] := List.eq_nil_of_length_eq_zero (by omega)
            simp [all_nil]
  | succ f ih =>
    intro l hf
    by_cases hl : l = []
    · subst hl; simp [all_nil]
    · by_cases he : (long l).2.2 = 0
      · have hp := long_pos l he
        have hs := long_size l
        rw [all_step l hl he]
        split
        · simp
        · have := ih (l.drop (long l).2.1) (by simp; omega)
          simp at this ⊢
          omega
      · rw [all_err l hl he]; simp

set_option maxRecDepth 100000 in
set_option maxHeartbeats 800000 in
theorem walk_nat (a b : Nat) (s : ByteArray) (w : World) (ha : a < 4294967296) (hb : b < 18446744073709551616) (hs : s.size ≤ maxLen) :
    Calls Try.prog 8 #[.int .u32 a, .int .u64 b, .string s] w fun e w' => e = .returned (.bool true) ∧ Below w.heap.size w w' := by
  unfold maxLen at hs
  by_cases h : 100 < s.size
  · have hd : decide (100 < (s.size : Int)) = true := by simp; omega
    go_enter Try.func8, Try.ntmps8
    go_wp2_with (go_at_call 9; refine (lives_any _).mono ?_; rintro e w1 ⟨rfl, hb1⟩)
    go_ret
    exact ⟨rfl, hb1⟩
  have hd : decide (100 < (s.size : Int)) = false := by simp; omega
  have hlen := len_of s
  have h10 := varint_ten b hb
  have hadd := fun w' => run_string_add_sum (P := Try.prog) (w := w') ⟨(varint b).toArray⟩ s (by show (varint b).toArray.size + s.size ≤ _; rw [List.size_toArray]; omega)
  by_cases he : (all (bs s)).2 = 0
  · have hbk := shorts_all _ (bs s) (Nat.le_refl _) he
    have Hbk : Hid ((⟨(shorts (all (bs s)).1).toArray⟩ : ByteArray) = s) := by show _ = _; rw [hbk]; rfl
    have Hlt := Lib.hid (all_lt (bs s) _ (Nat.le_refl _))
    clear hbk
    have heq : (((all (bs s)).2 : Int) != 0) = false := by simp [he]
    have heq2 : (((all (bs s)).2 : Int) == 0) = true := by simp [he]
    have He := Lib.hid he; clear he
    go_enter Try.func8, Try.ntmps8
    go_wp2_with (first
      | (go_at_call 9; refine (lives_any _).mono ?_; rintro e w1 ⟨rfl, hb1⟩; have hs1 := hb1.size)
      | (go_at_call 13; refine (put32_any _ _ ha).mono ?_; rintro e w2 ⟨rfl, hb2⟩; have hs2 := hb2.size)
      | (go_at_call 10; refine (get32_back _ _ ha).mono ?_; rintro e w2 ⟨rfl, rfl⟩)
      | (go_at_call 15; refine (put64_any _ _ hb).mono ?_; rintro e w3 ⟨rfl, hb3⟩; have hs3 := hb3.size)
      | (go_at_call 12; refine (get64_back _ _ hb).mono ?_; rintro e w3 ⟨rfl, rfl⟩))
    refine (short_one b _ hb).mono ?_
    rintro e w4 ⟨rfl, hb4⟩
    have hs4 := hb4.size
    go_wp2_with (go_at_call 18; refine (long_back _ _ _ hb (by omega)).mono ?_; rintro e w5 ⟨rfl, rfl⟩)
    refine (short_one b _ hb).mono ?_
    rintro e w5 ⟨rfl, hb5⟩
    have hs5 := hb5.size
    go_wp2_with (go_at_call 20; refine (all_any _ _ (by omega)).mono ?_; rintro e w6 ⟨v6, rfl, ho6, hb6⟩; obtain ⟨A, c, rfl, hA⟩ := NumsAt.of_own ho6; have HA := Lib.hid hA; clear hA; have hs6 := hb6.size)
    refine (short_any _ _ (all (bs s)).1 _ HA.out Hlt.out (by omega)).mono ?_
    rintro e w7 ⟨rfl, hb7⟩
    rw [Hbk.out]
    go_wp2
    go_ret
    exact ⟨rfl, hb1.trans ((hb2.mono hs1).trans ((hb3.mono (by omega)).trans ((hb4.mono (by omega)).trans ((hb5.mono (by omega)).trans ((hb6.mono (by omega)).trans (hb7.mono (by omega)))))))⟩
  · have heq : (((all (bs s)).2 : Int) != 0) = true := by simp [he]
    have hnil := all_none (bs s) he
    have Hnil := Lib.hid hnil; clear hnil
    have hz : (all (bs s)).1.length = 0 := by rw [Hnil.out]; rfl
    have He := Lib.hid he; clear he
    go_enter Try.func8, Try.ntmps8
    go_wp2_with (first
      | (go_at_call 9; refine (lives_any _).mono ?_; rintro e w1 ⟨rfl, hb1⟩; have hs1 := hb1.size)
      | (go_at_call 13; refine (put32_any _ _ ha).mono ?_; rintro e w2 ⟨rfl, hb2⟩; have hs2 := hb2.size)
      | (go_at_call 10; refine (get32_back _ _ ha).mono ?_; rintro e w2 ⟨rfl, rfl⟩)
      | (go_at_call 15; refine (put64_any _ _ hb).mono ?_; rintro e w3 ⟨rfl, hb3⟩; have hs3 := hb3.size)
      | (go_at_call 12; refine (get64_back _ _ hb).mono ?_; rintro e w3 ⟨rfl, rfl⟩))
    refine (short_one b _ hb).mono ?_
    rintro e w4 ⟨rfl, hb4⟩
    have hs4 := hb4.size
    go_wp2_with (go_at_call 18; refine (long_back _ _ _ hb (by omega)).mono ?_; rintro e w5 ⟨rfl, rfl⟩)
    refine (short_one b _ hb).mono ?_
    rintro e w5 ⟨rfl, hb5⟩
    have hs5 := hb5.size
    go_wp2_with (go_at_call 20; refine (all_any _ _ (by omega)).mono ?_; rintro e w6 ⟨v6, rfl, ho6, hb6⟩; obtain ⟨A, c, rfl, hA⟩ := NumsAt.of_own ho6; have HA := Lib.hid hA; clear hA; have hs6 := hb6.size)
    go_ret
    exact ⟨rfl, hb1.trans ((hb2.mono hs1).trans ((hb3.mono (by omega)).trans ((hb4.mono (by omega)).trans ((hb5.mono (by omega)).trans (hb6.mono (by omega))))))⟩

theorem walk (a b : Int) (s : ByteArray) (w : World) (w0 : (Lit.int .u32 a).wf = true) (w1 : (Lit.int .u64 b).wf = true) (hs : s.size ≤ maxLen) :
    Calls Try.prog 8 #[.int .u32 a, .int .u64 b, .string s] w fun e w' => e = .returned (.bool true) ∧ Below w.heap.size w w' := by
  have b0 := bounds_u32 w0
  have b1 := bounds_u64 w1
  obtain ⟨m, rfl⟩ := Int.eq_ofNat_of_zero_le b0.1
  obtain ⟨n, rfl⟩ := Int.eq_ofNat_of_zero_le b1.1
  exact walk_nat m n s w (by omega) (by omega) hs

theorem own : ownKnob Try.prog.godebug = none := by kernel_rfl
theorem laidOut : laidOutB Try.prog = true := by kernel_rfl
set_option maxRecDepth 100000 in
theorem lifted (os : Os) (started : os.Started) (H : Type) (enc : TypeId × Value → H) :
    ReturnsInHanded {} Try.checked os 8 .any (Rows.wordBackSpec.pre6 enc Try.prog Try.f8 Rows.wordBackRow.domain false) (Rows.wordBackSpec.post enc Try.prog Try.f8 false true false false) := by
  refine returnsInHanded_of_change (C := Try.checked) own started (by kernel_rfl) Try.func8
    (ChangeSpec.witness6 (enc := enc) (C := Try.checked) false ⟨#[], #[.int .u32 0, .int .u64 0, .string ByteArray.empty], []⟩ 8 (by kernel_rfl) (by kernel_rfl) (by kernel_rfl) (by kernel_rfl)) ?_
  intro W base args ds gs before hval0 hW hcnd _
  have hval : ∀ (j : Nat) t v, Try.f8.params[j]? = some t → args[j]? = some v → Value.okWide Try.prog W .any base t v := hval0
  have hW' := hW
  obtain ⟨p, q, hA0, hV, rfl, hfz, hnd⟩ := hW
  have hA : DataW.TrodAll enc Try.prog W 0 (fun _ => true) true Try.f8.params.toList args.toList ds p := hA0
  rw [Try.params8] at hA hval
  obtain ⟨v0, vs0, d0, ds0, p0, q0, hargs, rfl, rfl, h0, r0⟩ := trodAll_cons hA
  obtain ⟨v1, vs1, d1, ds1, p1, q1, rfl, rfl, rfl, h1, r1⟩ := trodAll_cons r0
  obtain ⟨v2, vs2, d2, ds2, p2, q2, rfl, rfl, rfl, h2, r2⟩ := trodAll_cons r1
  obtain ⟨rfl, rfl, rfl⟩ := trodAll_nil r2
  obtain rfl : args = #[v0, v1, v2] := by cases args; simp_all
  obtain ⟨rfl, rfl⟩ := trodVars_none hV
  obtain ⟨a0, rfl, rfl, rfl, w0⟩ := open_int Try.underlying22 (hval 0 22 v0 rfl rfl) h0
  obtain ⟨a1, rfl, rfl, rfl, w1⟩ := open_int Try.underlying23 (hval 1 23 v1 rfl rfl) h1
  obtain ⟨a2, rfl, rfl, rfl, w2⟩ := open_string Try.underlying9 (hval 2 9 v2 rfl rfl) h2
  clear hA0 hval0
  refine (walk a0 a1 a2 W w0 w1 w2).mono fun e W' ⟨he, bel⟩ => ?_
  subst he
  exact ⟨_, rfl, _, _, _, [], _, [], hW', trodAll_mk1 (shut_bool Try.underlying4 _), (trodAll_cons_mk (shut_int Try.underlying22 w0) (trodAll_cons_mk (shut_int Try.underlying23 w1) (trodAll_cons_mk (shut_string Try.underlying9 w2) trodAll_mk0))), rfl, bel.frame _, fun h => by cases h⟩

theorem over : Rows.wordBackRow.holds Try.pinned (OpenSpec.ofChange Rows.wordBackSpec) :=
  OpenClaim.holds_of_wide 8 Try.f8 rfl rfl rfl rfl rfl rfl rfl ⟨rfl, rfl, rfl, rfl, rfl⟩ rfl rfl rfl rfl rfl (by kernel_rfl) Try.func8 (by kernel_rfl)
    (of_decide_eq_true (by kernel_rfl)) (by unfold Func.isWrapper; first | (rw [if_pos (by decide +kernel)]; kernel_rfl) | (rw [if_neg (by decide +kernel)]; exact ⟨rfl, rfl⟩))
    (fun os started H enc _ => lifted os started H enc)

/-- the given statement -/
theorem proved : Rows.WordBackSaid := over
#print axioms proved
end Go.Proofs.Ytnjcpfbkcaeodaa.wordBack
