/-
  Contracts of the document's own Read and Parse.
-/
import Derived.Test.YtgoefndbpfhhaaaDoorValRefReadC
namespace Go.Proofs.YtgoefndbpfhhaaaDoor
open Go.RowKit

set_option maxRecDepth 100000 in
set_option maxHeartbeats 3200000 in
theorem vrread_txt (s : ByteArray) (w : World) (hs : s.size ≤ 1000000) (h0' : 0 < s.size) (hq : s[0].toNat = 34) : Calls Tryd.prog 27 #[.string s] w fun e w' => e = .returned (resV (txtR (bs s))) ∧ Below w.heap.size w w' := by
  have hne := ne_empty s h0'
  have A0 := Lib.hid (bs_at s 0 h0')
  have H0 := Lib.hid (fun w => nrread_any s w hs)
  rw [rdN_zero A0.out (by rw [UInt8.toNat_inj.1 (show s[0].toNat = (34 : UInt8).toNat from hq)]; decide)] at H0
  have d1 : ((s[0].toNat : Int) == 45) = false := by simp; omega
  have d2 : decide ((48 : Int) ≤ (s[0].toNat : Int)) = false := by simp; omega
  have d3 : ((s[0].toNat : Int) == 34) = true := by simp; omega
  clear hq
  have H1 := Lib.hid (fun w => runquote_any s w hs)
  obtain ⟨⟨t, m, ok⟩, hU⟩ : ∃ r, uq (bs s) = r := ⟨_, rfl⟩
  cases ok
  · obtain ⟨rfl, rfl⟩ := uq_false hU
    rw [uqV_no hU] at H1
    have Hv : Hid (resV (txtR (bs s)) = .tuple #[VV 0 0 ⟨#[]⟩, .int .i64 0, .int .i64 5]) := by
      show _ = _
      refine resV_eq (t := []) ?_
      unfold txtR
      rw [hU]; rfl
    go_enter Tryd.func27, Tryd.ntmps27
    go_wp2_with fail
    refine (H0.out _).mono ?_
    rintro e w1 ⟨rfl, rfl⟩
    go_wp2_with fail
    refine (H1.out _).mono ?_
    rintro e w1 ⟨rfl, hb1⟩
    have HB := Lib.hid ((Blk3.new w _ _ _ _).below hb1 (by simp))
    obtain ⟨c0, c1, c2, f0, f1, f2⟩ := HB.out
    have hb' := below_new hb1
    clear hb1
    go_wp2_with fail
    try simp only [Exit.inBlock, Exit.then]
    refine bodyPost_ret (results_v3 rfl _ _ rfl HB.out.set3) rfl ?_
    exact ⟨by rw [Hv.out]; rfl, by go_grown⟩
  · rw [uqV_yes hU] at H1
    have Hv : Hid (txtR (bs s) = resW (3, 0, t) m (txE t)) := by
      show _ = _
      unfold txtR
      rw [hU]; rfl
    have H2 : Hid (∀ w, Calls Tryd.prog 54 #[.int .i64 3, .string ⟨t.toArray⟩, .int .i64 (m : Nat)] w fun e w' => e = .returned (resV (txtR (bs s))) ∧ Below w.heap.size w w') := fun w => by
      rw [Hv.out]
      exact rlong_text ⟨t.toArray⟩ m m w rfl
    obtain ⟨⟨⟨rk, rn, rt⟩, rm, re⟩, hr⟩ : ∃ r, txtR (bs s) = r := ⟨_, rfl⟩
    rw [resV_eq hr] at H2 ⊢
    clear hr Hv hU
    generalize (⟨rt.toArray⟩ : ByteArray) = rs at H2 ⊢
    generalize (⟨t.toArray⟩ : ByteArray) = T at H1 H2
    go_enter Tryd.func27, Tryd.ntmps27
    go_wp2_with fail
    refine (H0.out _).mono ?_
    rintro e w1 ⟨rfl, rfl⟩
    go_wp2_with fail
    refine (H1.out _).mono ?_
    rintro e w1 ⟨rfl, hb1⟩
    have HB := Lib.hid ((Blk3.new w _ _ _ _).below hb1 (by simp))
    have hlt1 := new_lt hb1
    have hb' := below_new hb1
    clear hb1
    go_wp2_with fail
    refine (H2.out _).mono ?_
    rintro e w2 ⟨rfl, hb2⟩
    have HB2 := Lib.hid (HB.out.below hb2 hlt1)
    have hb2' := hb'.trans (hb2.mono (Nat.le_of_lt hlt1))
    clear hb2 hb' HB
    obtain ⟨c0, c1, c2, f0, f1, f2⟩ := HB2.out
    go_wp2_with fail
    try simp only [Exit.inBlock, Exit.then]
    refine bodyPost_ret (results_v3 rfl _ _ rfl HB2.out.set3) rfl ?_
    exact ⟨rfl, by go_grown⟩

set_option maxRecDepth 100000 in
set_option maxHeartbeats 3200000 in
theorem vrread_byt (s : ByteArray) (w : World) (hs : s.size ≤ 1000000) (h2 : 2 ≤ s.size) (hx2 : (bs s).take 2 = [120, 34]) : Calls Tryd.prog 27 #[.string s] w fun e w' => e = .returned (resV (bytR (bs s))) ∧ Below w.heap.size w w' := by
  have h0' : 0 < s.size := by omega
  have hne := ne_empty s h0'
  have A0 := Lib.hid (bs_at s 0 h0')
  have H0 := Lib.hid (fun w => nrread_any s w hs)
  rw [rdN_x hx2] at H0
  have h120 : s[0].toNat = 120 := by
    have h1 : (bs s)[0]? = some 120 := by
      have := congrArg (fun l => l[0]?) hx2
      simpa using this
    rw [A0.out] at h1
    rw [Option.some.inj h1]; rfl
  have d1 : ((s[0].toNat : Int) == 45) = false := by simp; omega
  have d2 : decide ((48 : Int) ≤ (s[0].toNat : Int)) = true := by simp; omega
  have d2' : decide ((s[0].toNat : Int) ≤ 57) = false := by simp; omega
  have d3 : ((s[0].toNat : Int) == 34) = false := by simp; omega
  have d4 : decide (1 < (s.size : Int)) = true := by simp; omega
  have i2 : (2 : Int) ≤ (s.size : Int) := by omega
  have hX : s.extract 0 2 = ⟨#[120, 34]⟩ := bs_eq (by rw [bs_front, hx2]; rfl)
  clear h120 hx2
  have hl2 : (s.extract 2 s.size).size ≤ 1000000 := by simp; omega
  have H1 := Lib.hid (fun w => runhex_any (s.extract 2 s.size) w hl2)
  have hbs : bs (s.extract 2 s.size) = (bs s).drop 2 := bs_rest s 2
  rw [hbs] at H1
  obtain ⟨⟨t, m, ok⟩, hU⟩ : ∃ r, uh ((bs s).drop 2) = r := ⟨_, rfl⟩
  have hm : m ≤ s.size := by
    rcases uh_cases ((bs s).drop 2) with ⟨t', r', h1, h3⟩ | h3
    · rw [hU] at h3
      simp only [Prod.mk.injEq] at h3
      have h4 := congrArg List.length h1
      rw [List.length_drop, bs_length, List.length_append, ← h3.2.1] at h4
      omega
    · rw [hU] at h3
      simp only [Prod.mk.injEq] at h3
      omega
  have Hv0 : Hid (bytR (bs s) = if ok = true then resW (4, 0, t) (m + 3) (byE t) else ((0, 0, []), 0, 5)) := by
    show _ = _
    unfold bytR
    rw [hU]
  unfold UnhV at H1
  rw [hU] at H1
  clear hbs hU hl2
  cases ok
  · have Hv : Hid (resV (bytR (bs s)) = .tuple #[VV 0 0 ⟨#[]⟩, .int .i64 0, .int .i64 5]) := by show _ = _; rw [Hv0.out]; exact resV_eq (t := []) rfl
    go_enter Tryd.func27, Tryd.ntmps27
    go_wp2_with fail
    refine (H0.out _).mono ?_
    rintro e w1 ⟨rfl, rfl⟩
    go_wp2_with fail
    refine (H1.out _).mono ?_
    rintro e w1 ⟨U, k, rfl, hyes, hb1⟩
    clear hyes
    have HB := Lib.hid ((Blk3.new w _ _ _ _).below hb1 (by simp))
    obtain ⟨c0, c1, c2, f0, f1, f2⟩ := HB.out
    have hb' := below_new hb1
    clear hb1
    go_wp2_with fail
    try simp only [Exit.inBlock, Exit.then]
    refine bodyPost_ret (results_v3 rfl _ _ rfl HB.out.set3) rfl ?_
    exact ⟨by rw [Hv.out]; rfl, by go_grown⟩
  · have H2 : Hid (∀ (w : World) (U : ByteArray), bs U = t → Calls Tryd.prog 54 #[.int .i64 4, .string U, .int .i64 ((m : Int) + 3)] w fun e w' => e = .returned (resV (bytR (bs s))) ∧ Below w.heap.size w w') := fun w U hU => by
      rw [Hv0.out, ← hU]
      exact rlong_bytes U _ (m + 3) w (by omega)
    obtain ⟨⟨⟨rk, rn, rt⟩, rm, re⟩, hr⟩ : ∃ r, bytR (bs s) = r := ⟨_, rfl⟩
    rw [resV_eq hr] at H2 ⊢
    clear hr Hv0
    generalize (⟨rt.toArray⟩ : ByteArray) = rs at H2 ⊢
    go_enter Tryd.func27, Tryd.ntmps27
    go_wp2_with fail
    refine (H0.out _).mono ?_
    rintro e w1 ⟨rfl, rfl⟩
    go_wp2_with fail
    refine (H1.out _).mono ?_
    rintro e w1 ⟨U, k, rfl, hyes, hb1⟩
    obtain ⟨hUt, hkm⟩ := hyes (by first | rfl | trivial)
    have hk2 : k = m := hkm
    subst hk2
    have HU := Lib.hid hUt
    clear hUt hyes hkm
    have HB := Lib.hid ((Blk3.new w _ _ _ _).below hb1 (by simp))
    have hlt1 := new_lt hb1
    have hb' := below_new hb1
    clear hb1
    go_wp2_with fail
    refine (H2.out _ U HU.out).mono ?_
    rintro e w2 ⟨rfl, hb2⟩
    have HB2 := Lib.hid (HB.out.below hb2 hlt1)
    have hb2' := hb'.trans (hb2.mono (Nat.le_of_lt hlt1))
    clear hb2 hb' HB
    obtain ⟨c0, c1, c2, f0, f1, f2⟩ := HB2.out
    go_wp2_with fail
    try simp only [Exit.inBlock, Exit.then]
    refine bodyPost_ret (results_v3 rfl _ _ rfl HB2.out.set3) rfl ?_
    exact ⟨rfl, by go_grown⟩

set_option maxRecDepth 100000 in
set_option maxHeartbeats 3200000 in
theorem vrread_rest (s : ByteArray) (w : World) (hs : s.size ≤ 1000000) (hnum : numB (bs s) = false) (h34 : (bs s)[0]? ≠ some 34) (hx2 : (bs s).take 2 ≠ [120, 34]) : Calls Tryd.prog 27 #[.string s] w fun e w' => e = .returned (resV (readW (bs s))) ∧ Below w.heap.size w w' := by
  have H0 := Lib.hid (fun w => nrread_any s w hs)
  have hle := rdN_le (bs s)
  rw [bs_length] at hle
  generalize hn : rdN (bs s) = n at H0 hle
  by_cases hA : (bs s).take n = nullT
  · have Hv : Hid (resV (readW (bs s)) = .tuple #[VV 0 0 ⟨#[]⟩, .int .i64 4, .int .i64 0]) := by show _ = _; exact resV_eq (t := []) (readW_null (by rw [hn]; exact hA))
    have h4 : n = 4 := by
      have := congrArg List.length hA
      rw [List.length_take, bs_length] at this
      simp [nullT] at this; omega
    subst h4
    have hX : s.extract 0 4 = ⟨#[110, 117, 108, 108]⟩ := bs_eq (by rw [bs_front, hA]; rfl)
    have i4 : (4 : Int) ≤ (s.size : Int) := by omega
    clear hA hn hnum h34 hx2
    go_enter Tryd.func27, Tryd.ntmps27
    go_wp2_with fail
    refine (H0.out _).mono ?_
    rintro e w1 ⟨rfl, rfl⟩
    go_wp2_with fail
    go_returns
    exact ⟨by rw [Hv.out], by go_grown⟩
  have Hv : Hid (resV (readW (bs s)) = .tuple #[VV 0 0 ⟨#[]⟩, .int .i64 0, .int .i64 5]) := by show _ = _; exact resV_eq (t := []) (readW_bad (by rw [hn]; exact hA) hnum h34 hx2)
  have hwayA : ((n : Int) == 4) = false ∨ (n = 4 ∧ ((s.extract 0 4).toList == [110, 117, 108, 108]) = false) := by
    by_cases h4 : n = 4
    · subst h4
      refine .inr ⟨rfl, ?_⟩
      rw [ByteArray.toList_eq]
      exact beq_eq_false_iff_ne.2 fun e => hA ((bs_front s 4).symm.trans e)
    · exact .inl (by simp; omega)
  clear hA hn
  by_cases h0 : s.size = 0
  · obtain rfl := is_empty s h0
    have hn0 : n = 0 := by omega
    subst hn0
    clear hwayA hnum h34 hx2
    go_enter Tryd.func27, Tryd.ntmps27
    go_wp2_with fail
    refine (H0.out _).mono ?_
    rintro e w1 ⟨rfl, rfl⟩
    go_wp2_with fail
    go_returns
    exact ⟨by rw [Hv.out], by go_grown⟩
  have h0' : 0 < s.size := by omega
  have hne := ne_empty s h0'
  have A0 := Lib.hid (bs_at s 0 h0')
  rw [numB_at A0.out] at hnum
  have d45 : ((s[0].toNat : Int) == 45) = false := by
    by_cases h2 : s[0].toNat = 45
    · rw [UInt8.toNat_inj.1 (show s[0].toNat = (45 : UInt8).toNat from h2)] at hnum
      cases hnum
    · simp; omega
  have hD0 : isD s[0] = false := by
    cases hd : isD s[0]
    · rfl
    · rw [hd] at hnum; simp at hnum
  have dq : ((s[0].toNat : Int) == 34) = false := by
    by_cases h2 : s[0].toNat = 34
    · exact absurd (by rw [A0.out, UInt8.toNat_inj.1 (show s[0].toNat = (34 : UInt8).toNat from h2)]) h34
    · simp; omega
  have hwayD : decide ((48 : Int) ≤ (s[0].toNat : Int)) = false ∨ (decide ((48 : Int) ≤ (s[0].toNat : Int)) = true ∧ decide ((s[0].toNat : Int) ≤ 57) = false) := by
    rcases isD_no hD0 with h | h
    · exact .inl (by simp; omega)
    · exact .inr ⟨by simp; omega, by simp; omega⟩
  have hwayX : decide (1 < (s.size : Int)) = false ∨ (decide (1 < (s.size : Int)) = true ∧ (2 : Int) ≤ (s.size : Int) ∧ ((s.extract 0 2).toList == [120, 34]) = false) := by
    by_cases h1 : 1 < s.size
    · refine .inr ⟨by simp; omega, by omega, ?_⟩
      rw [ByteArray.toList_eq]
      exact beq_eq_false_iff_ne.2 fun e => hx2 ((bs_front s 2).symm.trans e)
    · exact .inl (by simp; omega)
  clear hnum h34 hx2 hD0
  rcases hwayA with a1 | ⟨rfl, a2⟩
  · rcases hwayD with b1 | ⟨b1, b2⟩
    all_goals
      rcases hwayX with x1 | ⟨x1, x2, x3⟩
      all_goals
        go_enter Tryd.func27, Tryd.ntmps27
        go_wp2_with fail
        refine (H0.out _).mono ?_
        rintro e w1 ⟨rfl, rfl⟩
        go_wp2_with fail
        go_returns
        exact ⟨by rw [Hv.out], by go_grown⟩
  · have i4 : (4 : Int) ≤ (s.size : Int) := by omega
    rcases hwayD with b1 | ⟨b1, b2⟩
    all_goals
      rcases hwayX with x1 | ⟨x1, x2, x3⟩
      all_goals
        go_enter Tryd.func27, Tryd.ntmps27
        go_wp2_with fail
        refine (H0.out _).mono ?_
        rintro e w1 ⟨rfl, rfl⟩
        go_wp2_with fail
        go_returns
        exact ⟨by rw [Hv.out], by go_grown⟩

theorem vrread_any (s : ByteArray) (w : World) (hs : s.size ≤ 1000000) : Calls Tryd.prog 27 #[.string s] w fun e w' => e = .returned (resV (readW (bs s))) ∧ Below w.heap.size w w' := by
  cases hnum : numB (bs s)
  · by_cases h34 : (bs s)[0]? = some 34
    · obtain ⟨h0, h1⟩ := List.getElem?_eq_some_iff.1 h34
      rw [bs_length] at h0
      have h2 := bs_at s 0 h0
      rw [h34] at h2
      rw [readW_txt h34]
      exact vrread_txt s w hs h0 (by rw [← Option.some.inj h2]; rfl)
    · by_cases hx2 : (bs s).take 2 = [120, 34]
      · rw [readW_byt hx2]
        refine vrread_byt s w hs ?_ hx2
        have := congrArg List.length hx2
        rw [List.length_take, bs_length] at this
        simp at this; omega
      · exact vrread_rest s w hs hnum h34 hx2
  · rw [readW_num hnum]
    refine vrread_num s w hs ?_ hnum
    rw [← bs_length]
    cases hb : bs s with
    | nil => rw [hb] at hnum; cases hnum
    | cons a r => simp

set_option maxRecDepth 100000 in
set_option maxHeartbeats 1600000 in
theorem vrparse_any (s : ByteArray) (w : World) (hs : s.size ≤ 1000000) : Calls Tryd.prog 29 #[.string s] w fun e w' => e = .returned (parV (parseW (bs s))) ∧ Below w.heap.size w w' := by
  have H1 := Lib.hid (fun w => vrread_any s w hs)
  obtain ⟨⟨⟨rk, rn, rt⟩, rm, re⟩, hr⟩ : ∃ r, readW (bs s) = r := ⟨_, rfl⟩
  have Hp : Hid (parseW (bs s) = parseW2 (bs s) (rk, rn, rt) rm re) := by show _ = _; unfold parseW; rw [hr]
  rw [resV_eq hr] at H1
  by_cases he : re = 0
  · subst he
    clear hr
    by_cases hk : rm < s.size
    · have Hv : Hid (parV (parseW (bs s)) = .tuple #[VV 0 0 ⟨#[]⟩, .int .i64 6]) := by
        show _ = _
        refine parV_eq (t := []) ?_
        rw [Hp.out]
        unfold parseW2
        rw [if_pos rfl, if_pos (by rw [bs_length]; exact hk)]
      clear Hp
      generalize (⟨rt.toArray⟩ : ByteArray) = rs at H1
      go_enter Tryd.func29, Tryd.ntmps29
      go_wp2_with fail
      refine (H1.out _).mono ?_
      rintro e w1 ⟨rfl, hb1⟩
      have HB := Lib.hid ((Blk3.new w _ _ _ _).below hb1 (by simp))
      have hlt1 := new_lt hb1
      have hb' := below_new hb1
      clear hb1
      obtain ⟨c0, c1, c2, f0, f1, f2⟩ := HB.out
      go_wp2_with fail
      try simp only [Exit.inBlock, Exit.then]
      refine bodyPost_ret (results_v2 rfl _ _ rfl (Blk3.alloc HB.out.set3 (by simp; omega) _)) rfl ?_
      exact ⟨by rw [Hv.out]; rfl, by go_grown⟩
    · have Hv : Hid (parV (parseW (bs s)) = .tuple #[VV rk rn ⟨rt.toArray⟩, .int .i64 0]) := by
        show _ = _
        refine parV_eq ?_
        rw [Hp.out]
        unfold parseW2
        rw [if_pos rfl, if_neg (by rw [bs_length]; exact hk)]
      clear Hp
      have dk : decide (rm < s.size) = false := by simpa using hk
      generalize (⟨rt.toArray⟩ : ByteArray) = rs at H1 Hv
      go_enter Tryd.func29, Tryd.ntmps29
      go_wp2_with fail
      refine (H1.out _).mono ?_
      rintro e w1 ⟨rfl, hb1⟩
      have HB := Lib.hid ((Blk3.new w _ _ _ _).below hb1 (by simp))
      have hlt1 := new_lt hb1
      have hb' := below_new hb1
      clear hb1
      obtain ⟨c0, c1, c2, f0, f1, f2⟩ := HB.out
      go_wp2_with fail
      try simp only [Exit.inBlock, Exit.then]
      refine bodyPost_ret (results_v2 rfl _ _ rfl (Blk3.alloc HB.out.set3 (by simp; omega) _)) rfl ?_
      exact ⟨by rw [Hv.out]; rfl, by go_grown⟩
  · obtain ⟨hz1, hz2⟩ := readW_err hr he
    simp only [Prod.mk.injEq] at hz1
    obtain ⟨rfl, rfl, rfl⟩ := hz1
    have Hv : Hid (parV (parseW (bs s)) = .tuple #[VV 0 0 ⟨#[]⟩, .int .i64 (re : Nat)]) := by
      show _ = _
      refine parV_eq (t := []) ?_
      rw [Hp.out]
      unfold parseW2
      rw [if_neg he]
    have d1 : ((re : Int) == 0) = false := by simp; omega
    clear Hp he hr
    go_enter Tryd.func29, Tryd.ntmps29
    go_wp2_with fail
    refine (H1.out _).mono ?_
    rintro e w1 ⟨rfl, hb1⟩
    have HB := Lib.hid ((Blk3.new w _ _ _ _).below hb1 (by simp))
    have hlt1 := new_lt hb1
    have hb' := below_new hb1
    clear hb1
    obtain ⟨c0, c1, c2, f0, f1, f2⟩ := HB.out
    go_wp2_with fail
    try simp only [Exit.inBlock, Exit.then]
    refine bodyPost_ret (results_v2 rfl _ _ rfl (Blk3.alloc HB.out.set3 (by simp; omega) _)) rfl ?_
    exact ⟨by rw [Hv.out]; rfl, by go_grown⟩
end Go.Proofs.YtgoefndbpfhhaaaDoor
