/-
  Texts that the proof needs, one behind the other: ValRefReadC, ValRefParseC.
-/
import Derived.Test.YtebldfnocpcddaaGreatDoorPart11
import Derived.Test.YtebldfnocpcddaaGreatDoorPart20
import Derived.Test.YtebldfnocpcddaaGreatDoorPart21

/-
  Contracts of the document's own long, and of its Read at a number.
-/
namespace Go.Proofs.YtebldfnocpcddaaGreatDoor
open Go.RowKit

set_option maxRecDepth 100000 in
set_option maxHeartbeats 800000 in
theorem rlong_text (s : ByteArray) (z : Int) (m : Nat) (w : World) (hz : z = (m : Int)) : Calls Tryz.prog 109 #[.int .i64 3, .string s, .int .i64 z] w fun e w' => e = .returned (resV (resW (3, 0, bs s) m (txE (bs s)))) ∧ Below w.heap.size w w' := by
  subst hz
  have Hx : Hid (txE (bs s) = if 120 < s.size then 3 else if (sg (bs s)).isSome = true then 0 else 5) := by show _ = _; unfold txE; rw [bs_length]
  by_cases h : 120 < s.size
  · rw [if_pos h] at Hx
    have Hv : Hid (resV (resW (3, 0, bs s) m (txE (bs s))) = .tuple #[VV 0 0 ⟨#[]⟩, .int .i64 0, .int .i64 3]) := by show _ = _; rw [Hx.out]; exact resV_eq (t := []) rfl
    have d : decide (120 < (s.size : Int)) = true := by simp; omega
    go_enter Tryz.func109, Tryz.ntmps109
    go_wp2_with fail
    go_returns
    exact ⟨by rw [Hv.out], by go_grown⟩
  · rw [if_neg h] at Hx
    have d : decide (120 < (s.size : Int)) = false := by simp; omega
    have HR := Lib.hid (fun w => rright_any s w (by omega))
    cases hb : (sg (bs s)).isSome
    · rw [hb] at HR Hx
      have Hv : Hid (resV (resW (3, 0, bs s) m (txE (bs s))) = .tuple #[VV 0 0 ⟨#[]⟩, .int .i64 0, .int .i64 5]) := by show _ = _; rw [Hx.out]; exact resV_eq (t := []) rfl
      go_enter Tryz.func109, Tryz.ntmps109
      go_wp2_with fail
      refine (HR.out _).mono ?_
      rintro e w1 ⟨rfl, hb1⟩
      have HB := Lib.hid ((Blk3.new w _ _ _ _).below hb1 (by simp))
      obtain ⟨c0, c1, c2, f0, f1, f2⟩ := HB.out
      have hb' := below_new hb1
      go_wp2_with fail
      try simp only [Exit.inBlock, Exit.then]
      refine bodyPost_ret (results_v3 rfl _ _ rfl HB.out.set3) rfl ?_
      exact ⟨by rw [Hv.out]; rfl, by go_grown⟩
    · rw [hb] at HR Hx
      have Hv : Hid (resV (resW (3, 0, bs s) m (txE (bs s))) = .tuple #[VV 3 0 s, .int .i64 (m : Nat), .int .i64 0]) := by show _ = _; rw [Hx.out]; exact resV_eq (t := bs s) rfl
      go_enter Tryz.func109, Tryz.ntmps109
      go_wp2_with fail
      refine (HR.out _).mono ?_
      rintro e w1 ⟨rfl, hb1⟩
      have HB := Lib.hid ((Blk3.new w _ _ _ _).below hb1 (by simp))
      obtain ⟨c0, c1, c2, f0, f1, f2⟩ := HB.out
      have hb' := below_new hb1
      go_wp2_with fail
      try simp only [Exit.inBlock, Exit.then]
      refine bodyPost_ret (results_v3 rfl _ _ rfl HB.out.set3) rfl ?_
      exact ⟨by rw [Hv.out]; rfl, by go_grown⟩
set_option maxRecDepth 100000 in
set_option maxHeartbeats 800000 in
theorem rlong_bytes (s : ByteArray) (z : Int) (m : Nat) (w : World) (hz : z = (m : Int)) : Calls Tryz.prog 109 #[.int .i64 4, .string s, .int .i64 z] w fun e w' => e = .returned (resV (resW (4, 0, bs s) m (byE (bs s)))) ∧ Below w.heap.size w w' := by
  subst hz
  have Hx : Hid (byE (bs s) = if 120 < s.size then 3 else 0) := by show _ = _; unfold byE; rw [bs_length]
  by_cases h : 120 < s.size
  · rw [if_pos h] at Hx
    have Hv : Hid (resV (resW (4, 0, bs s) m (byE (bs s))) = .tuple #[VV 0 0 ⟨#[]⟩, .int .i64 0, .int .i64 3]) := by show _ = _; rw [Hx.out]; exact resV_eq (t := []) rfl
    have d : decide (120 < (s.size : Int)) = true := by simp; omega
    go_enter Tryz.func109, Tryz.ntmps109
    go_wp2_with fail
    go_returns
    exact ⟨by rw [Hv.out], by go_grown⟩
  · rw [if_neg h] at Hx
    have d : decide (120 < (s.size : Int)) = false := by simp; omega
    have Hv : Hid (resV (resW (4, 0, bs s) m (byE (bs s))) = .tuple #[VV 4 0 s, .int .i64 (m : Nat), .int .i64 0]) := by show _ = _; rw [Hx.out]; exact resV_eq (t := bs s) rfl
    go_enter Tryz.func109, Tryz.ntmps109
    go_wp2_with fail
    go_returns
    exact ⟨by rw [Hv.out], by go_grown⟩

theorem rdN_zero {l : List UInt8} {c : UInt8} (h : l[0]? = some c) (hc : isL c = false) : rdN l = 0 := by rw [rdN_cons h, hc]; rfl
theorem below_drew_new {w w1 : World} {o : Obj} (hd : Drew (w.alloc o) w1) : Below (w.alloc o).heap.size (w.alloc o) w1 := hd.below _
theorem rdN_x {l : List UInt8} (h : l.take 2 = [120, 34]) : rdN l = 1 := by
  obtain ⟨r, rfl⟩ : ∃ r, l = 120 :: 34 :: r := by
    match l, h with
    | [], h => simp at h
    | [a], h => simp at h
    | a :: b :: r, h => simp at h; exact ⟨r, by rw [h.1, h.2]⟩
  show (if isL 120 then runN (120 :: 34 :: r) else 0) = 1
  rw [if_pos (by decide)]
  simp [runN, show isN 120 = true by decide, show isN 34 = false by decide]

set_option maxRecDepth 100000 in
set_option maxHeartbeats 3200000 in
theorem vrread_num (s : ByteArray) (w : World) (hs : s.size ≤ 1000000) (h0' : 0 < s.size) (hnum : numB (bs s) = true) : Calls Tryz.prog 88 #[.string s] w fun e w' => e = .returned (resV (numR (bs s))) ∧ Below w.heap.size w w' := by
  have hne := ne_empty s h0'
  have A0 := Lib.hid (bs_at s 0 h0')
  have hway : ((s[0].toNat : Int) == 45) = true ∨ (((s[0].toNat : Int) == 45) = false ∧ decide ((48 : Int) ≤ (s[0].toNat : Int)) = true ∧ decide ((s[0].toNat : Int) ≤ 57) = true) := by
    rw [numB_at A0.out] at hnum
    by_cases h2 : s[0].toNat = 45
    · exact .inl (by simp; omega)
    · rcases Bool.or_eq_true_iff.1 hnum with h | h
      · have := of_decide_eq_true h
        exact absurd (by rw [this]; rfl) h2
      · have := (isD_iff _).1 h
        exact .inr ⟨by simp; omega, by simp; omega, by simp; omega⟩
  have hL : isL s[0] = false := by
    rw [numB_at A0.out] at hnum
    rcases Bool.or_eq_true_iff.1 hnum with h | h
    · rw [of_decide_eq_true h]; decide
    · exact isL_D h
  have H0 := Lib.hid (fun w => nrread_any s w hs)
  rw [rdN_zero A0.out hL] at H0
  clear hnum hL
  obtain ⟨⟨z, m, e⟩, hN⟩ : ∃ r, numW (bs s) = r := ⟨_, rfl⟩
  have H1 : Hid (∀ w, Calls Tryz.prog 107 #[.string s] w fun e' w' => e' = .returned (.tuple #[.int .i64 z, .int .i64 (m : Nat), .int .i64 (e : Nat)]) ∧ Drew w w') := fun w => by
    have := rnumber_any s w hs
    unfold numV at this
    rw [hN] at this; exact this
  have Hr : Hid (numR (bs s) = numR2 (bs s) z m e) := by show _ = _; unfold numR; rw [hN]
  by_cases he : e = 0
  · subst he
    obtain ⟨hb1, hz1, hz2, hml⟩ := num_back hN
    rw [bs_length] at hml
    by_cases hl : ∃ h : m < s.size, s[m].toNat = 108
    · obtain ⟨hlt, hl⟩ := hl
      have Hv : Hid (resV (numR (bs s)) = .tuple #[VV 2 z ⟨#[]⟩, .int .i64 ((m + 1 : Nat) : Int), .int .i64 0]) := by
        show _ = _
        refine resV_eq (t := []) ?_
        rw [Hr.out]
        unfold numR2
        rw [if_pos rfl, if_pos (by rw [bs_at s m hlt, UInt8.toNat_inj.1 (show s[m].toNat = (108 : UInt8).toNat from hl)])]
      have d1 : ((s[m].toNat : Int) == 108) = true := by simp; omega
      clear hl hN hb1 Hr
      rcases hway with hw | ⟨hw, hw2, hw3⟩
      all_goals
        go_enter Tryz.func88, Tryz.ntmps88
        go_wp2_with fail
        refine (H0.out _).mono ?_
        rintro e w1 ⟨rfl, rfl⟩
        go_wp2_with fail
        refine (H1.out _).mono ?_
        rintro e w1 ⟨rfl, hd1⟩
        have HB := Lib.hid ((Blk3.new w _ _ _ _).below (below_drew_new hd1) (by simp))
        obtain ⟨c0, c1, c2, f0, f1, f2⟩ := HB.out
        have hb' := below_new (below_drew_new hd1)
        clear hd1
        go_wp2_with fail
        try simp only [Exit.inBlock, Exit.then]
        refine bodyPost_ret (results_v3 rfl _ _ rfl HB.out.set3) rfl ?_
        exact ⟨by rw [Hv.out]; rfl, by go_grown⟩
    · have Hv : Hid (numR (bs s) = resW (1, z, []) m (inE z)) := by
        show _ = _
        rw [Hr.out]
        unfold numR2
        rw [if_pos rfl, if_neg ?_]
        intro h108
        obtain ⟨h1, h2⟩ := List.getElem?_eq_some_iff.1 h108
        rw [bs_length] at h1
        refine hl ⟨h1, ?_⟩
        have h3 := bs_at s m h1
        rw [h108] at h3
        rw [← Option.some.inj h3]; rfl
      have hway2 : decide (m < s.size) = false ∨ ∃ h : m < s.size, ((s[m].toNat : Int) == 108) = false := by
        by_cases h : m < s.size
        · refine .inr ⟨h, ?_⟩
          have : s[m].toNat ≠ 108 := fun h2 => hl ⟨h, h2⟩
          simp; omega
        · exact .inl (by simpa using h)
      have H2 := Lib.hid (fun w => rfits32 z w hz1 hz2)
      have Hi : Hid (inE z = if fitsB z 32 = true then 0 else 10) := rfl
      clear hl hN hb1 Hr
      have Hf : Hid (∀ b, fitsB z 32 = b → resV (numR (bs s)) = bif b then .tuple #[VV 1 z ⟨#[]⟩, .int .i64 (m : Nat), .int .i64 0] else .tuple #[VV 0 0 ⟨#[]⟩, .int .i64 0, .int .i64 10]) := by
        intro b hb
        rw [Hv.out, Hi.out, hb]
        cases b
        · exact resV_eq (t := []) rfl
        · exact resV_eq (t := []) rfl
      generalize hfb : fitsB z 32 = fb at H2
      have Hf2 := Lib.hid (Hf.out fb hfb)
      clear Hf Hi Hv hfb
      cases fb
      all_goals
        rcases hway2 with hv | ⟨hlt, hv⟩
        all_goals
          rcases hway with hw | ⟨hw, hw2, hw3⟩
          all_goals
            go_enter Tryz.func88, Tryz.ntmps88
            go_wp2_with fail
            refine (H0.out _).mono ?_
            rintro e w1 ⟨rfl, rfl⟩
            go_wp2_with fail
            refine (H1.out _).mono ?_
            rintro e w1 ⟨rfl, hd1⟩
            have HB := Lib.hid ((Blk3.new w _ _ _ _).below (below_drew_new hd1) (by simp))
            have hb' := below_new (below_drew_new hd1)
            clear hd1
            go_wp2_with fail
            refine (H2.out _).mono ?_
            rintro e w2 ⟨rfl, rfl⟩
            obtain ⟨c0, c1, c2, f0, f1, f2⟩ := HB.out
            go_wp2_with fail
            try simp only [Exit.inBlock, Exit.then]
            refine bodyPost_ret (results_v3 rfl _ _ rfl HB.out.set3) rfl ?_
            exact ⟨by rw [Hf2.out]; rfl, by go_grown⟩
  · have Hv : Hid (resV (numR (bs s)) = .tuple #[VV 0 0 ⟨#[]⟩, .int .i64 0, .int .i64 (e : Nat)]) := by
      show _ = _
      refine resV_eq (t := []) ?_
      rw [Hr.out]
      unfold numR2
      rw [if_neg he]
    have d1 : ((e : Int) != 0) = true := by simp; omega
    clear hN Hr he
    rcases hway with hw | ⟨hw, hw2, hw3⟩
    all_goals
      go_enter Tryz.func88, Tryz.ntmps88
      go_wp2_with fail
      refine (H0.out _).mono ?_
      rintro e w1 ⟨rfl, rfl⟩
      go_wp2_with fail
      refine (H1.out _).mono ?_
      rintro e w1 ⟨rfl, hd1⟩
      have HB := Lib.hid ((Blk3.new w _ _ _ _).below (below_drew_new hd1) (by simp))
      obtain ⟨c0, c1, c2, f0, f1, f2⟩ := HB.out
      have hb' := below_new (below_drew_new hd1)
      clear hd1
      go_wp2_with fail
      try simp only [Exit.inBlock, Exit.then]
      refine bodyPost_ret (results_v3 rfl _ _ rfl HB.out.set3) rfl ?_
      exact ⟨by rw [Hv.out]; rfl, by go_grown⟩
end Go.Proofs.YtebldfnocpcddaaGreatDoor

/-
  Contracts of the document's own Read and Parse.
-/
namespace Go.Proofs.YtebldfnocpcddaaGreatDoor
open Go.RowKit

set_option maxRecDepth 100000 in
set_option maxHeartbeats 3200000 in
theorem vrread_txt (s : ByteArray) (w : World) (hs : s.size ≤ 1000000) (h0' : 0 < s.size) (hq : s[0].toNat = 34) : Calls Tryz.prog 88 #[.string s] w fun e w' => e = .returned (resV (txtR (bs s))) ∧ Below w.heap.size w w' := by
  have hne := ne_empty s h0'
  have A0 := Lib.hid (bs_at s 0 h0')
  have H0 := Lib.hid (fun w => nrread_any s w hs)
  rw [rdN_zero A0.out (by rw [UInt8.toNat_inj.1 (show s[0].toNat = (34 : UInt8).toNat from hq)]; decide)] at H0
  have d1 : ((s[0].toNat : Int) == 45) = false := by simp; omega
  have d2 : decide ((48 : Int) ≤ (s[0].toNat : Int)) = false := by simp; omega
  have d3 : ((s[0].toNat : Int) == 34) = true := by simp; omega
  clear hq
  have H1 := Lib.hid (fun w => runquote_any s w hs)
  obtain ⟨⟨t, m, ok⟩, hU⟩ : ∃ r, uq (bs s) = r := ⟨_, rfl⟩
  cases ok
  · obtain ⟨rfl, rfl⟩ := uq_false hU
    rw [uqV_no hU] at H1
    have Hv : Hid (resV (txtR (bs s)) = .tuple #[VV 0 0 ⟨#[]⟩, .int .i64 0, .int .i64 5]) := by
      show _ = _
      refine resV_eq (t := []) ?_
      unfold txtR
      rw [hU]; rfl
    go_enter Tryz.func88, Tryz.ntmps88
    go_wp2_with fail
    refine (H0.out _).mono ?_
    rintro e w1 ⟨rfl, rfl⟩
    go_wp2_with fail
    refine (H1.out _).mono ?_
    rintro e w1 ⟨rfl, hb1⟩
    have HB := Lib.hid ((Blk3.new w _ _ _ _).below hb1 (by simp))
    obtain ⟨c0, c1, c2, f0, f1, f2⟩ := HB.out
    have hb' := below_new hb1
    clear hb1
    go_wp2_with fail
    try simp only [Exit.inBlock, Exit.then]
    refine bodyPost_ret (results_v3 rfl _ _ rfl HB.out.set3) rfl ?_
    exact ⟨by rw [Hv.out]; rfl, by go_grown⟩
  · rw [uqV_yes hU] at H1
    have Hv : Hid (txtR (bs s) = resW (3, 0, t) m (txE t)) := by
      show _ = _
      unfold txtR
      rw [hU]; rfl
    have H2 : Hid (∀ w, Calls Tryz.prog 109 #[.int .i64 3, .string ⟨t.toArray⟩, .int .i64 (m : Nat)] w fun e w' => e = .returned (resV (txtR (bs s))) ∧ Below w.heap.size w w') := fun w => by
      rw [Hv.out]
      exact rlong_text ⟨t.toArray⟩ m m w rfl
    obtain ⟨⟨⟨rk, rn, rt⟩, rm, re⟩, hr⟩ : ∃ r, txtR (bs s) = r := ⟨_, rfl⟩
    rw [resV_eq hr] at H2 ⊢
    clear hr Hv hU
    generalize (⟨rt.toArray⟩ : ByteArray) = rs at H2 ⊢
    generalize (⟨t.toArray⟩ : ByteArray) = T at H1 H2
    go_enter Tryz.func88, Tryz.ntmps88
    go_wp2_with fail
    refine (H0.out _).mono ?_
    rintro e w1 ⟨rfl, rfl⟩
    go_wp2_with fail
    refine (H1.out _).mono ?_
    rintro e w1 ⟨rfl, hb1⟩
    have HB := Lib.hid ((Blk3.new w _ _ _ _).below hb1 (by simp))
    have hlt1 := new_lt hb1
    have hb' := below_new hb1
    clear hb1
    go_wp2_with fail
    refine (H2.out _).mono ?_
    rintro e w2 ⟨rfl, hb2⟩
    have HB2 := Lib.hid (HB.out.below hb2 hlt1)
    have hb2' := hb'.trans (hb2.mono (Nat.le_of_lt hlt1))
    clear hb2 hb' HB
    obtain ⟨c0, c1, c2, f0, f1, f2⟩ := HB2.out
    go_wp2_with fail
    try simp only [Exit.inBlock, Exit.then]
    refine bodyPost_ret (results_v3 rfl _ _ rfl HB2.out.set3) rfl ?_
    exact ⟨rfl, by go_grown⟩

set_option maxRecDepth 100000 in
set_option maxHeartbeats 3200000 in
theorem vrread_byt (s : ByteArray) (w : World) (hs : s.size ≤ 1000000) (h2 : 2 ≤ s.size) (hx2 : (bs s).take 2 = [120, 34]) : Calls Tryz.prog 88 #[.string s] w fun e w' => e = .returned (resV (bytR (bs s))) ∧ Below w.heap.size w w' := by
  have h0' : 0 < s.size := by omega
  have hne := ne_empty s h0'
  have A0 := Lib.hid (bs_at s 0 h0')
  have H0 := Lib.hid (fun w => nrread_any s w hs)
  rw [rdN_x hx2] at H0
  have h120 : s[0].toNat = 120 := by
    have h1 : (bs s)[0]? = some 120 := by
      have := congrArg (fun l => l[0]?) hx2
      simpa using this
    rw [A0.out] at h1
    rw [Option.some.inj h1]; rfl
  have d1 : ((s[0].toNat : Int) == 45) = false := by simp; omega
  have d2 : decide ((48 : Int) ≤ (s[0].toNat : Int)) = true := by simp; omega
  have d2' : decide ((s[0].toNat : Int) ≤ 57) = false := by simp; omega
  have d3 : ((s[0].toNat : Int) == 34) = false := by simp; omega
  have d4 : decide (1 < (s.size : Int)) = true := by simp; omega
  have i2 : (2 : Int) ≤ (s.size : Int) := by omega
  have hX : s.extract 0 2 = ⟨#[120, 34]⟩ := bs_eq (by rw [bs_front, hx2]; rfl)
  clear h120 hx2
  have hl2 : (s.extract 2 s.size).size ≤ 1000000 := by simp; omega
  have H1 := Lib.hid (fun w => runhex_any (s.extract 2 s.size) w hl2)
  have hbs : bs (s.extract 2 s.size) = (bs s).drop 2 := bs_rest s 2
  rw [hbs] at H1
  obtain ⟨⟨t, m, ok⟩, hU⟩ : ∃ r, uh ((bs s).drop 2) = r := ⟨_, rfl⟩
  have hm : m ≤ s.size := by
    rcases uh_cases ((bs s).drop 2) with ⟨t', r', h1, h3⟩ | h3
    · rw [hU] at h3
      simp only [Prod.mk.injEq] at h3
      have h4 := congrArg List.length h1
      rw [List.length_drop, bs_length, List.length_append, ← h3.2.1] at h4
      omega
    · rw [hU] at h3
      simp only [Prod.mk.injEq] at h3
      omega
  have Hv0 : Hid (bytR (bs s) = if ok = true then resW (4, 0, t) (m + 3) (byE t) else ((0, 0, []), 0, 5)) := by
    show _ = _
    unfold bytR
    rw [hU]
  unfold UnhV at H1
  rw [hU] at H1
  clear hbs hU hl2
  cases ok
  · have Hv : Hid (resV (bytR (bs s)) = .tuple #[VV 0 0 ⟨#[]⟩, .int .i64 0, .int .i64 5]) := by show _ = _; rw [Hv0.out]; exact resV_eq (t := []) rfl
    go_enter Tryz.func88, Tryz.ntmps88
    go_wp2_with fail
    refine (H0.out _).mono ?_
    rintro e w1 ⟨rfl, rfl⟩
    go_wp2_with fail
    refine (H1.out _).mono ?_
    rintro e w1 ⟨U, k, rfl, hyes, hb1⟩
    clear hyes
    have HB := Lib.hid ((Blk3.new w _ _ _ _).below hb1 (by simp))
    obtain ⟨c0, c1, c2, f0, f1, f2⟩ := HB.out
    have hb' := below_new hb1
    clear hb1
    go_wp2_with fail
    try simp only [Exit.inBlock, Exit.then]
    refine bodyPost_ret (results_v3 rfl _ _ rfl HB.out.set3) rfl ?_
    exact ⟨by rw [Hv.out]; rfl, by go_grown⟩
  · have H2 : Hid (∀ (w : World) (U : ByteArray), bs U = t → Calls Tryz.prog 109 #[.int .i64 4, .string U, .int .i64 ((m : Int) + 3)] w fun e w' => e = .returned (resV (bytR (bs s))) ∧ Below w.heap.size w w') := fun w U hU => by
      rw [Hv0.out, ← hU]
      exact rlong_bytes U _ (m + 3) w (by omega)
    obtain ⟨⟨⟨rk, rn, rt⟩, rm, re⟩, hr⟩ : ∃ r, bytR (bs s) = r := ⟨_, rfl⟩
    rw [resV_eq hr] at H2 ⊢
    clear hr Hv0
    generalize (⟨rt.toArray⟩ : ByteArray) = rs at H2 ⊢
    go_enter Tryz.func88, Tryz.ntmps88
    go_wp2_with fail
    refine (H0.out _).mono ?_
    rintro e w1 ⟨rfl, rfl⟩
    go_wp2_with fail
    refine (H1.out _).mono ?_
    rintro e w1 ⟨U, k, rfl, hyes, hb1⟩
    obtain ⟨hUt, hkm⟩ := hyes (by first | rfl | trivial)
    have hk2 : k = m := hkm
    subst hk2
    have HU := Lib.hid hUt
    clear hUt hyes hkm
    have HB := Lib.hid ((Blk3.new w _ _ _ _).below hb1 (by simp))
    have hlt1 := new_lt hb1
    have hb' := below_new hb1
    clear hb1
    go_wp2_with fail
    refine (H2.out _ U HU.out).mono ?_
    rintro e w2 ⟨rfl, hb2⟩
    have HB2 := Lib.hid (HB.out.below hb2 hlt1)
    have hb2' := hb'.trans (hb2.mono (Nat.le_of_lt hlt1))
    clear hb2 hb' HB
    obtain ⟨c0, c1, c2, f0, f1, f2⟩ := HB2.out
    go_wp2_with fail
    try simp only [Exit.inBlock, Exit.then]
    refine bodyPost_ret (results_v3 rfl _ _ rfl HB2.out.set3) rfl ?_
    exact ⟨rfl, by go_grown⟩

set_option maxRecDepth 100000 in
set_option maxHeartbeats 3200000 in
theorem vrread_rest (s : ByteArray) (w : World) (hs : s.size ≤ 1000000) (hnum : numB (bs s) = false) (h34 : (bs s)[0]? ≠ some 34) (hx2 : (bs s).take 2 ≠ [120, 34]) : Calls Tryz.prog 88 #[.string s] w fun e w' => e = .returned (resV (readW (bs s))) ∧ Below w.heap.size w w' := by
  have H0 := Lib.hid (fun w => nrread_any s w hs)
  have hle := rdN_le (bs s)
  rw [bs_length] at hle
  generalize hn : rdN (bs s) = n at H0 hle
  by_cases hA : (bs s).take n = nullT
  · have Hv : Hid (resV (readW (bs s)) = .tuple #[VV 0 0 ⟨#[]⟩, .int .i64 4, .int .i64 0]) := by show _ = _; exact resV_eq (t := []) (readW_null (by rw [hn]; exact hA))
    have h4 : n = 4 := by
      have := congrArg List.length hA
      rw [List.length_take, bs_length] at this
      simp [nullT] at this; omega
    subst h4
    have hX : s.extract 0 4 = ⟨#[110, 117, 108, 108]⟩ := bs_eq (by rw [bs_front, hA]; rfl)
    have i4 : (4 : Int) ≤ (s.size : Int) := by omega
    clear hA hn hnum h34 hx2
    go_enter Tryz.func88, Tryz.ntmps88
    go_wp2_with fail
    refine (H0.out _).mono ?_
    rintro e w1 ⟨rfl, rfl⟩
    go_wp2_with fail
    go_returns
    exact ⟨by rw [Hv.out], by go_grown⟩
  have Hv : Hid (resV (readW (bs s)) = .tuple #[VV 0 0 ⟨#[]⟩, .int .i64 0, .int .i64 5]) := by show _ = _; exact resV_eq (t := []) (readW_bad (by rw [hn]; exact hA) hnum h34 hx2)
  have hwayA : ((n : Int) == 4) = false ∨ (n = 4 ∧ ((s.extract 0 4).toList == [110, 117, 108, 108]) = false) := by
    by_cases h4 : n = 4
    · subst h4
      refine .inr ⟨rfl, ?_⟩
      rw [ByteArray.toList_eq]
      exact beq_eq_false_iff_ne.2 fun e => hA ((bs_front s 4).symm.trans e)
    · exact .inl (by simp; omega)
  clear hA hn
  by_cases h0 : s.size = 0
  · obtain rfl := is_empty s h0
    have hn0 : n = 0 := by omega
    subst hn0
    clear hwayA hnum h34 hx2
    go_enter Tryz.func88, Tryz.ntmps88
    go_wp2_with fail
    refine (H0.out _).mono ?_
    rintro e w1 ⟨rfl, rfl⟩
    go_wp2_with fail
    go_returns
    exact ⟨by rw [Hv.out], by go_grown⟩
  have h0' : 0 < s.size := by omega
  have hne := ne_empty s h0'
  have A0 := Lib.hid (bs_at s 0 h0')
  rw [numB_at A0.out] at hnum
  have d45 : ((s[0].toNat : Int) == 45) = false := by
    by_cases h2 : s[0].toNat = 45
    · rw [UInt8.toNat_inj.1 (show s[0].toNat = (45 : UInt8).toNat from h2)] at hnum
      cases hnum
    · simp; omega
  have hD0 : isD s[0] = false := by
    cases hd : isD s[0]
    · rfl
    · rw [hd] at hnum; simp at hnum
  have dq : ((s[0].toNat : Int) == 34) = false := by
    by_cases h2 : s[0].toNat = 34
    · exact absurd (by rw [A0.out, UInt8.toNat_inj.1 (show s[0].toNat = (34 : UInt8).toNat from h2)]) h34
    · simp; omega
  have hwayD : decide ((48 : Int) ≤ (s[0].toNat : Int)) = false ∨ (decide ((48 : Int) ≤ (s[0].toNat : Int)) = true ∧ decide ((s[0].toNat : Int) ≤ 57) = false) := by
    rcases isD_no hD0 with h | h
    · exact .inl (by simp; omega)
    · exact .inr ⟨by simp; omega, by simp; omega⟩
  have hwayX : decide (1 < (s.size : Int)) = false ∨ (decide (1 < (s.size : Int)) = true ∧ (2 : Int) ≤ (s.size : Int) ∧ ((s.extract 0 2).toList == [120, 34]) = false) := by
    by_cases h1 : 1 < s.size
    · refine .inr ⟨by simp; omega, by omega, ?_⟩
      rw [ByteArray.toList_eq]
      exact beq_eq_false_iff_ne.2 fun e => hx2 ((bs_front s 2).symm.trans e)
    · exact .inl (by simp; omega)
  clear hnum h34 hx2 hD0
  rcases hwayA with a1 | ⟨rfl, a2⟩
  · rcases hwayD with b1 | ⟨b1, b2⟩
    all_goals
      rcases hwayX with x1 | ⟨x1, x2, x3⟩
      all_goals
        go_enter Tryz.func88, Tryz.ntmps88
        go_wp2_with fail
        refine (H0.out _).mono ?_
        rintro e w1 ⟨rfl, rfl⟩
        go_wp2_with fail
        go_returns
        exact ⟨by rw [Hv.out], by go_grown⟩
  · have i4 : (4 : Int) ≤ (s.size : Int) := by omega
    rcases hwayD with b1 | ⟨b1, b2⟩
    all_goals
      rcases hwayX with x1 | ⟨x1, x2, x3⟩
      all_goals
        go_enter Tryz.func88, Tryz.ntmps88
        go_wp2_with fail
        refine (H0.out _).mono ?_
        rintro e w1 ⟨rfl, rfl⟩
        go_wp2_with fail
        go_returns
        exact ⟨by rw [Hv.out], by go_grown⟩

theorem vrread_any (s : ByteArray) (w : World) (hs : s.size ≤ 1000000) : Calls Tryz.prog 88 #[.string s] w fun e w' => e = .returned (resV (readW (bs s))) ∧ Below w.heap.size w w' := by
  cases hnum : numB (bs s)
  · by_cases h34 : (bs s)[0]? = some 34
    · obtain ⟨h0, h1⟩ := List.getElem?_eq_some_iff.1 h34
      rw [bs_length] at h0
      have h2 := bs_at s 0 h0
      rw [h34] at h2
      rw [readW_txt h34]
      exact vrread_txt s w hs h0 (by rw [← Option.some.inj h2]; rfl)
    · by_cases hx2 : (bs s).take 2 = [120, 34]
      · rw [readW_byt hx2]
        refine vrread_byt s w hs ?_ hx2
        have := congrArg List.length hx2
        rw [List.length_take, bs_length] at this
        simp at this; omega
      · exact vrread_rest s w hs hnum h34 hx2
  · rw [readW_num hnum]
    refine vrread_num s w hs ?_ hnum
    rw [← bs_length]
    cases hb : bs s with
    | nil => rw [hb] at hnum; cases hnum
    | cons a r => simp

end Go.Proofs.YtebldfnocpcddaaGreatDoor
