/-
  Contracts of package value's Print and of the document's own.
-/
import Derived.Test.YtgoefndbpfhhaaaDoorValReadC
import Derived.Test.YtgoefndbpfhhaaaDoorValRefDigC
import Derived.Test.YtgoefndbpfhhaaaDoorValHexC
namespace Go.Proofs.YtgoefndbpfhhaaaDoor
open Go.RowKit

theorem bcell5 {W w1 : World} (hb : Below W.heap.size W w1) : (∀ b o, b < W.heap.size → w1.cell? ⟨b, o, none⟩ = W.cell? ⟨b, o, none⟩) :=
  fun b o h => hb.cell (p := ⟨b, o, none⟩) h

set_option maxRecDepth 100000 in
set_option maxHeartbeats 800000 in
theorem vprint_no (k n : Int) (s : ByteArray) (w : World) (ht : UTab w) (hr : rightV k n (bs s) = false) : Calls Tryd.prog 24 #[VV k n s] w fun e w' => e = .returned (.tuple #[.string ⟨#[]⟩, .int .i64 2]) ∧ Below w.heap.size w w' := by
  have HT := Lib.hid ht; clear ht
  have H1 := Lib.hid (fun w h => vright_any k n s w h)
  rw [hr] at H1
  clear hr
  go_enter Tryd.func24, Tryd.ntmps24
  go_wp2_with fail
  refine (H1.out _ (HT.out.alloc _)).mono ?_
  rintro e w1 ⟨rfl, hb1⟩
  have hb' := below_new hb1
  go_wp2_with fail
  go_ret2
  exact ⟨rfl, hb'⟩

set_option maxRecDepth 100000 in
set_option maxHeartbeats 1600000 in
theorem vprint_yes (k n : Int) (s : ByteArray) (w : World) (ht : UTab w) (h1 : -9223372036854775808 ≤ n) (h2 : n < 9223372036854775808) (hs : s.size ≤ 1000000) (hr : rightV k n (bs s) = true) :
    Calls Tryd.prog 24 #[VV k n s] w fun e w' => e = .returned (.tuple #[.string ⟨(prW k n (bs s)).toArray⟩, .int .i64 0]) ∧ Below w.heap.size w w' := by
  have HT := Lib.hid ht; clear ht
  have H1 := Lib.hid (fun w h => vright_any k n s w h)
  rw [hr] at H1
  have HD := Lib.hid (fun w => digits_any n w h1 h2)
  have HQ := Lib.hid (fun w => quote_any s w hs)
  have HP := Lib.hid (fun w => printBytes_any s w hs)
  rcases rightV_cases k n (bs s) with ⟨rfl, hv⟩ | ⟨rfl, hv⟩ | ⟨rfl, hv⟩ | ⟨rfl, hv⟩ | ⟨rfl, hv⟩ | ⟨_, _, _, _, _, hv⟩
  · clear hv hr
    go_enter Tryd.func24, Tryd.ntmps24
    go_wp2_with fail
    refine (H1.out _ (HT.out.alloc _)).mono ?_
    rintro e w1 ⟨rfl, hb1⟩
    have HB := Lib.hid ((Blk3.new w _ _ _ _).below hb1 (by simp))
    obtain ⟨c0, c1, c2, f0, f1, f2⟩ := HB.out
    have hb' := below_new hb1
    go_wp2_with fail
    go_ret2
    exact ⟨rfl, hb'⟩
  · clear hv hr
    have Hp : Hid (prW 1 n (bs s) = dz n) := rfl
    go_enter Tryd.func24, Tryd.ntmps24
    go_wp2_with fail
    refine (H1.out _ (HT.out.alloc _)).mono ?_
    rintro e w1 ⟨rfl, hb1⟩
    have HB := Lib.hid ((Blk3.new w _ _ _ _).below hb1 (by simp))
    obtain ⟨c0, c1, c2, f0, f1, f2⟩ := HB.out
    have hlt := new_lt hb1
    have hb' := below_new hb1
    clear hb1
    go_wp2_with fail
    refine (HD.out _).mono ?_
    rintro e w2 ⟨rfl, hb2⟩
    go_wp2_with fail
    go_ret2
    exact ⟨by rw [Hp.out]; rfl, hb'.trans (hb2.mono (Nat.le_of_lt hlt))⟩
  · clear hv hr
    have Hp : Hid (⟨(dz n).toArray⟩ ++ ⟨#[108]⟩ = (⟨(prW 2 n (bs s)).toArray⟩ : ByteArray)) := by
      show _ = _
      refine bs_eq ?_
      rw [bs_append, bs_mk (prW 2 n (bs s)), bs_mk (dz n)]; rfl
    have hX : (⟨(dz n).toArray⟩ : ByteArray).size ≤ 20 := by rw [ba_size]; exact dz_len _ h1 h2
    generalize (⟨(dz n).toArray⟩ : ByteArray) = X at HD Hp hX
    have hadd := fun w' => run_string_add_sum (P := Tryd.prog) (w := w') X ⟨#[108]⟩ (by show X.size + 1 ≤ _; omega)
    have hcv := fun w' b => run_string_one w' b 1 108 108 rfl
    go_enter Tryd.func24, Tryd.ntmps24
    go_wp2_with fail
    refine (H1.out _ (HT.out.alloc _)).mono ?_
    rintro e w1 ⟨rfl, hb1⟩
    have HB := Lib.hid ((Blk3.new w _ _ _ _).below hb1 (by simp))
    obtain ⟨c0, c1, c2, f0, f1, f2⟩ := HB.out
    have hlt := new_lt hb1
    have hb' := below_new hb1
    clear hb1
    go_wp2_with fail
    go_region_with (go_at_call 22; refine (HD.out _).mono ?_; rintro e w2 ⟨rfl, hb2⟩; have hbc := bcell5 hb2; have hbb : Below w.heap.size w w2 := Below.trans (by go_grown) (hb2.mono (by simp; omega)))
    all_goals
      go_wp2
      go_ret2
      exact ⟨by rw [← Hp.out]; rfl, by have := hbb.size; go_grown⟩
  · clear hv hr
    have Hp : Hid (prW 3 n (bs s) = qt (bs s)) := rfl
    go_enter Tryd.func24, Tryd.ntmps24
    go_wp2_with fail
    refine (H1.out _ (HT.out.alloc _)).mono ?_
    rintro e w1 ⟨rfl, hb1⟩
    have HB := Lib.hid ((Blk3.new w _ _ _ _).below hb1 (by simp))
    obtain ⟨c0, c1, c2, f0, f1, f2⟩ := HB.out
    have hlt := new_lt hb1
    have hb' := below_new hb1
    clear hb1
    go_wp2_with fail
    refine (HQ.out _).mono ?_
    rintro e w2 ⟨rfl, hb2⟩
    go_wp2_with fail
    go_ret2
    exact ⟨by rw [Hp.out]; rfl, hb'.trans (hb2.mono (Nat.le_of_lt hlt))⟩
  · clear hv hr
    have Hp : Hid (prW 4 n (bs s) = 120 :: 34 :: (hxs (bs s) ++ [34])) := rfl
    go_enter Tryd.func24, Tryd.ntmps24
    go_wp2_with fail
    refine (H1.out _ (HT.out.alloc _)).mono ?_
    rintro e w1 ⟨rfl, hb1⟩
    have HB := Lib.hid ((Blk3.new w _ _ _ _).below hb1 (by simp))
    obtain ⟨c0, c1, c2, f0, f1, f2⟩ := HB.out
    have hlt := new_lt hb1
    have hb' := below_new hb1
    clear hb1
    go_wp2_with fail
    refine (HP.out _).mono ?_
    rintro e w2 ⟨rfl, hb2⟩
    go_wp2_with fail
    go_ret2
    exact ⟨by rw [Hp.out]; rfl, hb'.trans (hb2.mono (Nat.le_of_lt hlt))⟩
  · rw [hr] at hv; cases hv

set_option maxRecDepth 100000 in
set_option maxHeartbeats 1600000 in
theorem vrprint_any (k n : Int) (s : ByteArray) (w : World) (h1 : -9223372036854775808 ≤ n) (h2 : n < 9223372036854775808) (hs : s.size ≤ 1000000) :
    Calls Tryd.prog 25 #[VV k n s] w fun e w' => e = .returned (.string ⟨(prW k n (bs s)).toArray⟩) ∧ Below w.heap.size w w' := by
  have HD := Lib.hid (fun w => rdigits_any n w h1 h2)
  have HQ := Lib.hid (fun w => rquote_any s w hs)
  have HP := Lib.hid (fun w => rhex_any s w hs)
  by_cases hk1 : k = 1
  · subst hk1
    have Hp : Hid (prW 1 n (bs s) = dz n) := rfl
    go_enter Tryd.func25, Tryd.ntmps25
    go_wp2_with fail
    refine (HD.out _).mono ?_
    rintro e w2 ⟨rfl, rfl⟩
    go_wp2_with fail
    go_ret
    exact ⟨by rw [Hp.out]; rfl, by go_grown⟩
  by_cases hk2 : k = 2
  · subst hk2
    have Hp : Hid (⟨(dz n).toArray⟩ ++ ⟨#[108]⟩ = (⟨(prW 2 n (bs s)).toArray⟩ : ByteArray)) := by
      show _ = _
      refine bs_eq ?_
      rw [bs_append, bs_mk (prW 2 n (bs s)), bs_mk (dz n)]; rfl
    have hX : (⟨(dz n).toArray⟩ : ByteArray).size ≤ 20 := by rw [ba_size]; exact dz_len _ h1 h2
    generalize (⟨(dz n).toArray⟩ : ByteArray) = X at HD Hp hX
    have hadd := fun w' => run_string_add_sum (P := Tryd.prog) (w := w') X ⟨#[108]⟩ (by show X.size + 1 ≤ _; omega)
    go_enter Tryd.func25, Tryd.ntmps25
    go_wp2_with fail
    refine (HD.out _).mono ?_
    rintro e w2 ⟨rfl, rfl⟩
    go_wp2_with fail
    go_ret
    exact ⟨by rw [← Hp.out]; rfl, by go_grown⟩
  by_cases hk3 : k = 3
  · subst hk3
    have Hp : Hid (prW 3 n (bs s) = qt (bs s)) := rfl
    go_enter Tryd.func25, Tryd.ntmps25
    go_wp2_with fail
    refine (HQ.out _).mono ?_
    rintro e w2 ⟨rfl, hb2⟩
    have hb' := below_new hb2
    go_wp2_with fail
    go_ret
    exact ⟨by rw [Hp.out]; rfl, hb'⟩
  by_cases hk4 : k = 4
  · subst hk4
    have Hp : Hid (⟨#[120, 34]⟩ ++ ⟨(hxs (bs s)).toArray⟩ ++ ⟨#[34]⟩ = (⟨(prW 4 n (bs s)).toArray⟩ : ByteArray)) := by
      show _ = _
      refine bs_eq ?_
      rw [bs_append, bs_append, bs_mk (prW 4 n (bs s)), bs_mk (hxs (bs s))]; rfl
    have hX : (⟨(hxs (bs s)).toArray⟩ : ByteArray).size ≤ 2000000 := by rw [ba_size, hxs_len, bs_length]; omega
    generalize (⟨(hxs (bs s)).toArray⟩ : ByteArray) = X at HP Hp hX
    have hsz : (⟨#[120, 34]⟩ ++ X : ByteArray).size = 2 + X.size := ByteArray.size_append
    have hadd := fun w' => run_string_add_sum (P := Tryd.prog) (w := w') ⟨#[120, 34]⟩ X (by show 2 + X.size ≤ _; omega)
    have hadd2 := fun w' => run_string_add_sum (P := Tryd.prog) (w := w') (⟨#[120, 34]⟩ ++ X) ⟨#[34]⟩ (by rw [hsz]; show 2 + X.size + 1 ≤ _; omega)
    go_enter Tryd.func25, Tryd.ntmps25
    go_wp2_with fail
    refine (HP.out _).mono ?_
    rintro e w2 ⟨rfl, hd2⟩
    have hb' := below_new (hd2.below _)
    go_wp2_with fail
    go_ret
    exact ⟨by rw [← Hp.out]; rfl, hb'⟩
  have Hp : Hid (prW k n (bs s) = nullT) := by show _ = _; unfold prW; rw [if_neg hk1, if_neg hk2, if_neg hk3, if_neg hk4]
  have d1 : (k == 1) = false := by simpa using hk1
  have d2 : (k == 2) = false := by simpa using hk2
  have d3 : (k == 3) = false := by simpa using hk3
  have d4 : (k == 4) = false := by simpa using hk4
  clear hk1 hk2 hk3 hk4
  go_enter Tryd.func25, Tryd.ntmps25
  go_wp2_with fail
  go_ret
  exact ⟨by rw [Hp.out]; rfl, by go_grown⟩
end Go.Proofs.YtgoefndbpfhhaaaDoor
