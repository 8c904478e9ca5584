/-
  Contracts of package value's Read and Parse.
-/
import Derived.Test.YtgoefndbpfhhaaaDoorValReadBytC
namespace Go.Proofs.YtgoefndbpfhhaaaDoor
open Go.RowKit

theorem cmp_false' {a b : ByteArray} (h : bs a ≠ bs b) : (a.toList == b.toList) = false := cmp_ne (fun e => h (by rw [e]))
theorem pre2 (l : List UInt8) : [120, 34].isPrefixOf l = decide (l.take 2 = [120, 34]) := by
  match l with
  | [] => rfl
  | [a] => simp [List.isPrefixOf]
  | a :: b :: r =>
    rw [Bool.eq_iff_iff]
    simp [List.isPrefixOf]
    exact ⟨fun ⟨h1, h2⟩ => ⟨h1.symm, h2.symm⟩, fun ⟨h1, h2⟩ => ⟨h1.symm, h2.symm⟩⟩
theorem numB_at {l : List UInt8} {c : UInt8} (h : l[0]? = some c) : numB l = (decide (c = 45) || isD c) := by
  cases l with
  | nil => simp at h
  | cons a r => simp at h; subst h; rfl

set_option maxRecDepth 100000 in
set_option maxHeartbeats 1600000 in
theorem vread_any (s : ByteArray) (w : World) (ht : UTab w) (hs : s.size ≤ 1000000) : Calls Tryd.prog 26 #[.string s] w fun e w' => e = .returned (resV (readW (bs s))) ∧ Below w.heap.size w w' := by
  have HT := Lib.hid ht; clear ht
  have H1 := Lib.hid (fun w => nread_any s w hs)
  have hle := rdN_le (bs s)
  rw [bs_length] at hle
  have Hfr := Lib.hid (bs_front s (rdN (bs s)))
  have Hrd : Hid (rdN (bs s) = rdN (bs s)) := rfl
  generalize hn : rdN (bs s) = n at H1 hle Hfr
  have i0 : (0 : Int) ≤ (n : Int) := by omega
  have i1 : (n : Int) ≤ (s.size : Int) := by omega
  have Hn := Lib.hid hn; clear hn Hrd
  by_cases hA : (bs s).take n = nullT
  · have Hv : Hid (resV (readW (bs s)) = .tuple #[VV 0 0 ⟨#[]⟩, .int .i64 4, .int .i64 0]) := by show _ = _; exact resV_eq (t := []) (readW_null (by rw [Hn.out]; exact hA))
    have hX : s.extract 0 n = ⟨#[110, 117, 108, 108]⟩ := bs_eq (Hfr.out.trans hA)
    go_enter Tryd.func26, Tryd.ntmps26
    go_wp2_with fail
    refine (H1.out _).mono ?_
    rintro e w1 ⟨rfl, rfl⟩
    go_wp2_with fail
    go_returns
    exact ⟨by rw [Hv.out], by go_grown⟩
  have hA' : (bs s).take (rdN (bs s)) ≠ nullT := by rw [Hn.out]; exact hA
  have dn : ((s.extract 0 n).toList == [110, 117, 108, 108]) = false := by
    rw [ByteArray.toList_eq]
    exact beq_eq_false_iff_ne.2 fun e => hA (Hfr.out.symm.trans e)
  by_cases h0 : s.size = 0
  · obtain rfl := is_empty s h0
    have Hv : Hid (resV (readW (bs ⟨#[]⟩)) = .tuple #[VV 0 0 ⟨#[]⟩, .int .i64 0, .int .i64 5]) := by show _ = _; exact resV_eq (t := []) (readW_bad hA' rfl (by simp [bs]) (by simp [bs]))
    clear hA hA'
    go_enter Tryd.func26, Tryd.ntmps26
    go_wp2_with fail
    refine (H1.out _).mono ?_
    rintro e w1 ⟨rfl, rfl⟩
    go_wp2_with fail
    go_returns
    exact ⟨by rw [Hv.out], by go_grown⟩
  have hne := ne_empty s (by omega)
  have h0' : 0 < s.size := by omega
  have A0 := Lib.hid (bs_at s 0 h0')
  have HNB := Lib.hid (numB_at A0.out)
  have HD := Lib.hid (fun w => isDigit_any s[0] w)
  by_cases hnum : numB (bs s) = true
  · have Hv := Lib.hid (readW_num hnum)
    have hway : ((s[0].toNat : Int) == 45) = true ∨ (((s[0].toNat : Int) == 45) = false ∧ isD s[0] = true) := by
      rw [HNB.out] at hnum
      rcases Bool.or_eq_true_iff.1 hnum with h | h
      · have := of_decide_eq_true h
        exact .inl (by rw [this]; rfl)
      · by_cases h2 : s[0].toNat = 45
        · exact .inl (by simp; omega)
        · exact .inr ⟨by simp; omega, h⟩
    have H2 := Lib.hid (fun w => readNumber_any s w hs)
    rw [← Hv.out] at H2
    obtain ⟨⟨⟨rk, rn, rt⟩, rm, re⟩, hr⟩ : ∃ r, readW (bs s) = r := ⟨_, rfl⟩
    rw [resV_eq hr] at H2 ⊢
    clear hr Hv hnum hA hA'
    generalize (⟨rt.toArray⟩ : ByteArray) = rs at H2 ⊢
    rcases hway with hw | ⟨hw, hw2⟩
    · go_enter Tryd.func26, Tryd.ntmps26
      go_wp2_with fail
      refine (H1.out _).mono ?_
      rintro e w1 ⟨rfl, rfl⟩
      go_wp2_with fail
      refine (H2.out _).mono ?_
      rintro e w1 ⟨rfl, hb1⟩
      have HB := Lib.hid ((Blk3.new w _ _ _ _).below hb1 (by simp))
      obtain ⟨c0, c1, c2, f0, f1, f2⟩ := HB.out
      have hb' := below_new hb1
      go_wp2_with fail
      try simp only [Exit.inBlock, Exit.then]
      refine bodyPost_ret (results_v3 rfl _ _ rfl HB.out.set3) rfl ?_
      exact ⟨rfl, by go_grown⟩
    · rw [hw2] at HD
      go_enter Tryd.func26, Tryd.ntmps26
      go_wp2_with fail
      refine (H1.out _).mono ?_
      rintro e w1 ⟨rfl, rfl⟩
      go_wp2_with fail
      refine (HD.out _).mono ?_
      rintro e w1 ⟨rfl, rfl⟩
      go_wp2_with fail
      refine (H2.out _).mono ?_
      rintro e w1 ⟨rfl, hb1⟩
      have HB := Lib.hid ((Blk3.new w _ _ _ _).below hb1 (by simp))
      obtain ⟨c0, c1, c2, f0, f1, f2⟩ := HB.out
      have hb' := below_new hb1
      go_wp2_with fail
      try simp only [Exit.inBlock, Exit.then]
      refine bodyPost_ret (results_v3 rfl _ _ rfl HB.out.set3) rfl ?_
      exact ⟨rfl, by go_grown⟩
  have hnum' : numB (bs s) = false := by simpa using hnum
  have d45 : ((s[0].toNat : Int) == 45) = false := by
    by_cases h2 : s[0].toNat = 45
    · exact absurd (by rw [HNB.out, UInt8.toNat_inj.1 (show s[0].toNat = (45 : UInt8).toNat from h2)]; rfl) hnum
    · simp; omega
  have hD0 : isD s[0] = false := by
    cases hd : isD s[0]
    · rfl
    · exact absurd (by rw [HNB.out, hd]; simp) hnum
  rw [hD0] at HD
  by_cases hq : s[0].toNat = 34
  · have h34 : (bs s)[0]? = some 34 := by rw [A0.out, UInt8.toNat_inj.1 (show s[0].toNat = (34 : UInt8).toNat from hq)]
    have dq : ((s[0].toNat : Int) == 34) = true := by simp; omega
    have Hv := Lib.hid (readW_txt h34)
    have H2 := Lib.hid (fun w h => readText_any s w h hs)
    rw [← Hv.out] at H2
    obtain ⟨⟨⟨rk, rn, rt⟩, rm, re⟩, hr⟩ : ∃ r, readW (bs s) = r := ⟨_, rfl⟩
    rw [resV_eq hr] at H2 ⊢
    clear hr Hv hnum hA hA' h34 hq hD0
    generalize (⟨rt.toArray⟩ : ByteArray) = rs at H2 ⊢
    go_enter Tryd.func26, Tryd.ntmps26
    go_wp2_with fail
    refine (H1.out _).mono ?_
    rintro e w1 ⟨rfl, rfl⟩
    go_wp2_with fail
    refine (HD.out _).mono ?_
    rintro e w1 ⟨rfl, rfl⟩
    go_wp2_with fail
    refine (H2.out _ (HT.out.alloc _)).mono ?_
    rintro e w1 ⟨rfl, hb1⟩
    have HB := Lib.hid ((Blk3.new w _ _ _ _).below hb1 (by simp))
    obtain ⟨c0, c1, c2, f0, f1, f2⟩ := HB.out
    have hb' := below_new hb1
    go_wp2_with fail
    try simp only [Exit.inBlock, Exit.then]
    refine bodyPost_ret (results_v3 rfl _ _ rfl HB.out.set3) rfl ?_
    exact ⟨rfl, by go_grown⟩
  have h34 : (bs s)[0]? ≠ some 34 := fun e => hq (by rw [A0.out] at e; rw [Option.some.inj e]; rfl)
  have dq : ((s[0].toNat : Int) == 34) = false := by simp; omega
  have HP := Lib.hid (fun w => hasPrefix_any s ⟨#[120, 34]⟩ w)
  have HPe : Hid ((bs ⟨#[120, 34]⟩).isPrefixOf (bs s) = decide ((bs s).take 2 = [120, 34])) := pre2 _
  rw [HPe.out] at HP
  by_cases hx2 : (bs s).take 2 = [120, 34]
  · have h2 : 2 ≤ s.size := by
      have := congrArg List.length hx2
      rw [List.length_take, bs_length] at this
      simp at this; omega
    have Hv := Lib.hid (readW_byt hx2)
    have H2 := Lib.hid (fun w => readBytes_any s w hs h2)
    rw [← Hv.out] at H2
    have hdx : decide ((bs s).take 2 = [120, 34]) = true := decide_eq_true hx2
    rw [hdx] at HP
    obtain ⟨⟨⟨rk, rn, rt⟩, rm, re⟩, hr⟩ : ∃ r, readW (bs s) = r := ⟨_, rfl⟩
    rw [resV_eq hr] at H2 ⊢
    clear hr Hv hnum hA hA' h34 hq hD0 hx2 hdx
    generalize (⟨rt.toArray⟩ : ByteArray) = rs at H2 ⊢
    go_enter Tryd.func26, Tryd.ntmps26
    go_wp2_with fail
    refine (H1.out _).mono ?_
    rintro e w1 ⟨rfl, rfl⟩
    go_wp2_with fail
    refine (HD.out _).mono ?_
    rintro e w1 ⟨rfl, rfl⟩
    go_wp2_with fail
    refine (HP.out _).mono ?_
    rintro e w1 ⟨rfl, rfl⟩
    go_wp2_with fail
    refine (H2.out _).mono ?_
    rintro e w1 ⟨rfl, hb1⟩
    have HB := Lib.hid ((Blk3.new w _ _ _ _).below hb1 (by simp))
    obtain ⟨c0, c1, c2, f0, f1, f2⟩ := HB.out
    have hb' := below_new hb1
    go_wp2_with fail
    try simp only [Exit.inBlock, Exit.then]
    refine bodyPost_ret (results_v3 rfl _ _ rfl HB.out.set3) rfl ?_
    exact ⟨rfl, by go_grown⟩
  · have Hv : Hid (resV (readW (bs s)) = .tuple #[VV 0 0 ⟨#[]⟩, .int .i64 0, .int .i64 5]) := by show _ = _; exact resV_eq (t := []) (readW_bad hA' hnum' h34 hx2)
    have hdx : decide ((bs s).take 2 = [120, 34]) = false := decide_eq_false hx2
    rw [hdx] at HP
    clear hnum hA hA' h34 hq hD0 hx2 hdx hnum'
    go_enter Tryd.func26, Tryd.ntmps26
    go_wp2_with fail
    refine (H1.out _).mono ?_
    rintro e w1 ⟨rfl, rfl⟩
    go_wp2_with fail
    refine (HD.out _).mono ?_
    rintro e w1 ⟨rfl, rfl⟩
    go_wp2_with fail
    refine (HP.out _).mono ?_
    rintro e w1 ⟨rfl, rfl⟩
    go_wp2_with fail
    go_returns
    exact ⟨by rw [Hv.out], by go_grown⟩

def parV (r : Val × Nat) : Value := .tuple #[valV r.1, .int .i64 (r.2 : Nat)]
theorem parV_eq {r : Val × Nat} {k n : Int} {t : List UInt8} {e : Nat} (h : r = ((k, n, t), e)) : parV r = .tuple #[VV k n ⟨t.toArray⟩, .int .i64 (e : Nat)] := by rw [h]; rfl
set_option maxRecDepth 100000 in
set_option maxHeartbeats 1600000 in
theorem vparse_any (s : ByteArray) (w : World) (ht : UTab w) (hs : s.size ≤ 1000000) : Calls Tryd.prog 28 #[.string s] w fun e w' => e = .returned (parV (parseW (bs s))) ∧ Below w.heap.size w w' := by
  have HT := Lib.hid ht; clear ht
  have H1 := Lib.hid (fun w h => vread_any s w h hs)
  obtain ⟨⟨⟨rk, rn, rt⟩, rm, re⟩, hr⟩ : ∃ r, readW (bs s) = r := ⟨_, rfl⟩
  have Hp : Hid (parseW (bs s) = parseW2 (bs s) (rk, rn, rt) rm re) := by show _ = _; unfold parseW; rw [hr]
  rw [resV_eq hr] at H1
  clear hr
  by_cases he : re = 0
  · subst he
    by_cases hk : rm < s.size
    · have Hv : Hid (parV (parseW (bs s)) = .tuple #[VV 0 0 ⟨#[]⟩, .int .i64 6]) := by
        show _ = _
        refine parV_eq (t := []) ?_
        rw [Hp.out]
        unfold parseW2
        rw [if_pos rfl, if_pos (by rw [bs_length]; exact hk)]
      clear Hp
      generalize (⟨rt.toArray⟩ : ByteArray) = rs at H1
      go_enter Tryd.func28, Tryd.ntmps28
      go_wp2_with fail
      refine (H1.out _ (HT.out.alloc _)).mono ?_
      rintro e w1 ⟨rfl, hb1⟩
      have HB := Lib.hid ((Blk3.new w _ _ _ _).below hb1 (by simp))
      have hlt1 := new_lt hb1
      have hb' := below_new hb1
      clear hb1
      obtain ⟨c0, c1, c2, f0, f1, f2⟩ := HB.out
      go_wp2_with fail
      try simp only [Exit.inBlock, Exit.then]
      refine bodyPost_ret (results_v2 rfl _ _ rfl (Blk3.alloc HB.out.set3 (by simp; omega) _)) rfl ?_
      exact ⟨by rw [Hv.out]; rfl, by go_grown⟩
    · have Hv : Hid (parV (parseW (bs s)) = .tuple #[VV rk rn ⟨rt.toArray⟩, .int .i64 0]) := by
        show _ = _
        refine parV_eq ?_
        rw [Hp.out]
        unfold parseW2
        rw [if_pos rfl, if_neg (by rw [bs_length]; exact hk)]
      clear Hp
      have dk : decide (rm < s.size) = false := by simpa using hk
      generalize (⟨rt.toArray⟩ : ByteArray) = rs at H1 Hv
      go_enter Tryd.func28, Tryd.ntmps28
      go_wp2_with fail
      refine (H1.out _ (HT.out.alloc _)).mono ?_
      rintro e w1 ⟨rfl, hb1⟩
      have HB := Lib.hid ((Blk3.new w _ _ _ _).below hb1 (by simp))
      have hlt1 := new_lt hb1
      have hb' := below_new hb1
      clear hb1
      obtain ⟨c0, c1, c2, f0, f1, f2⟩ := HB.out
      go_wp2_with fail
      try simp only [Exit.inBlock, Exit.then]
      refine bodyPost_ret (results_v2 rfl _ _ rfl (Blk3.alloc HB.out.set3 (by simp; omega) _)) rfl ?_
      exact ⟨by rw [Hv.out]; rfl, by go_grown⟩
  · have Hv : Hid (parV (parseW (bs s)) = .tuple #[VV 0 0 ⟨#[]⟩, .int .i64 (re : Nat)]) := by
      show _ = _
      refine parV_eq (t := []) ?_
      rw [Hp.out]
      unfold parseW2
      rw [if_neg he]
    have d1 : ((re : Int) != 0) = true := by simp; omega
    clear Hp he
    generalize (⟨rt.toArray⟩ : ByteArray) = rs at H1
    go_enter Tryd.func28, Tryd.ntmps28
    go_wp2_with fail
    refine (H1.out _ (HT.out.alloc _)).mono ?_
    rintro e w1 ⟨rfl, hb1⟩
    have HB := Lib.hid ((Blk3.new w _ _ _ _).below hb1 (by simp))
    have hlt1 := new_lt hb1
    have hb' := below_new hb1
    clear hb1
    obtain ⟨c0, c1, c2, f0, f1, f2⟩ := HB.out
    go_wp2_with fail
    try simp only [Exit.inBlock, Exit.then]
    refine bodyPost_ret (results_v2 rfl _ _ rfl (Blk3.alloc HB.out.set3 (by simp; omega) _)) rfl ?_
    exact ⟨by rw [Hv.out]; rfl, by go_grown⟩
end Go.Proofs.YtgoefndbpfhhaaaDoor
