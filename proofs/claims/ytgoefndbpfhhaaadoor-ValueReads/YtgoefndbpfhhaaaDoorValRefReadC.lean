/-
  Contracts of the document's own long, and of its Read at a number.
-/
import Derived.Test.YtgoefndbpfhhaaaDoorValParseC
import Derived.Test.YtgoefndbpfhhaaaDoorValRefNumC
import Derived.Test.YtgoefndbpfhhaaaDoorValRefUnhexC
import Derived.Test.YtgoefndbpfhhaaaDoorNameRefUnqC
namespace Go.Proofs.YtgoefndbpfhhaaaDoor
open Go.RowKit

set_option maxRecDepth 100000 in
set_option maxHeartbeats 800000 in
theorem rlong_text (s : ByteArray) (z : Int) (m : Nat) (w : World) (hz : z = (m : Int)) : Calls Tryd.prog 54 #[.int .i64 3, .string s, .int .i64 z] w fun e w' => e = .returned (resV (resW (3, 0, bs s) m (txE (bs s)))) ∧ Below w.heap.size w w' := by
  subst hz
  have Hx : Hid (txE (bs s) = if 120 < s.size then 3 else if (sg (bs s)).isSome = true then 0 else 5) := by show _ = _; unfold txE; rw [bs_length]
  by_cases h : 120 < s.size
  · rw [if_pos h] at Hx
    have Hv : Hid (resV (resW (3, 0, bs s) m (txE (bs s))) = .tuple #[VV 0 0 ⟨#[]⟩, .int .i64 0, .int .i64 3]) := by show _ = _; rw [Hx.out]; exact resV_eq (t := []) rfl
    have d : decide (120 < (s.size : Int)) = true := by simp; omega
    go_enter Tryd.func54, Tryd.ntmps54
    go_wp2_with fail
    go_returns
    exact ⟨by rw [Hv.out], by go_grown⟩
  · rw [if_neg h] at Hx
    have d : decide (120 < (s.size : Int)) = false := by simp; omega
    have HR := Lib.hid (fun w => rright_any s w (by omega))
    cases hb : (sg (bs s)).isSome
    · rw [hb] at HR Hx
      have Hv : Hid (resV (resW (3, 0, bs s) m (txE (bs s))) = .tuple #[VV 0 0 ⟨#[]⟩, .int .i64 0, .int .i64 5]) := by show _ = _; rw [Hx.out]; exact resV_eq (t := []) rfl
      go_enter Tryd.func54, Tryd.ntmps54
      go_wp2_with fail
      refine (HR.out _).mono ?_
      rintro e w1 ⟨rfl, hb1⟩
      have HB := Lib.hid ((Blk3.new w _ _ _ _).below hb1 (by simp))
      obtain ⟨c0, c1, c2, f0, f1, f2⟩ := HB.out
      have hb' := below_new hb1
      go_wp2_with fail
      try simp only [Exit.inBlock, Exit.then]
      refine bodyPost_ret (results_v3 rfl _ _ rfl HB.out.set3) rfl ?_
      exact ⟨by rw [Hv.out]; rfl, by go_grown⟩
    · rw [hb] at HR Hx
      have Hv : Hid (resV (resW (3, 0, bs s) m (txE (bs s))) = .tuple #[VV 3 0 s, .int .i64 (m : Nat), .int .i64 0]) := by show _ = _; rw [Hx.out]; exact resV_eq (t := bs s) rfl
      go_enter Tryd.func54, Tryd.ntmps54
      go_wp2_with fail
      refine (HR.out _).mono ?_
      rintro e w1 ⟨rfl, hb1⟩
      have HB := Lib.hid ((Blk3.new w _ _ _ _).below hb1 (by simp))
      obtain ⟨c0, c1, c2, f0, f1, f2⟩ := HB.out
      have hb' := below_new hb1
      go_wp2_with fail
      try simp only [Exit.inBlock, Exit.then]
      refine bodyPost_ret (results_v3 rfl _ _ rfl HB.out.set3) rfl ?_
      exact ⟨by rw [Hv.out]; rfl, by go_grown⟩
set_option maxRecDepth 100000 in
set_option maxHeartbeats 800000 in
theorem rlong_bytes (s : ByteArray) (z : Int) (m : Nat) (w : World) (hz : z = (m : Int)) : Calls Tryd.prog 54 #[.int .i64 4, .string s, .int .i64 z] w fun e w' => e = .returned (resV (resW (4, 0, bs s) m (byE (bs s)))) ∧ Below w.heap.size w w' := by
  subst hz
  have Hx : Hid (byE (bs s) = if 120 < s.size then 3 else 0) := by show _ = _; unfold byE; rw [bs_length]
  by_cases h : 120 < s.size
  · rw [if_pos h] at Hx
    have Hv : Hid (resV (resW (4, 0, bs s) m (byE (bs s))) = .tuple #[VV 0 0 ⟨#[]⟩, .int .i64 0, .int .i64 3]) := by show _ = _; rw [Hx.out]; exact resV_eq (t := []) rfl
    have d : decide (120 < (s.size : Int)) = true := by simp; omega
    go_enter Tryd.func54, Tryd.ntmps54
    go_wp2_with fail
    go_returns
    exact ⟨by rw [Hv.out], by go_grown⟩
  · rw [if_neg h] at Hx
    have d : decide (120 < (s.size : Int)) = false := by simp; omega
    have Hv : Hid (resV (resW (4, 0, bs s) m (byE (bs s))) = .tuple #[VV 4 0 s, .int .i64 (m : Nat), .int .i64 0]) := by show _ = _; rw [Hx.out]; exact resV_eq (t := bs s) rfl
    go_enter Tryd.func54, Tryd.ntmps54
    go_wp2_with fail
    go_returns
    exact ⟨by rw [Hv.out], by go_grown⟩

theorem rdN_zero {l : List UInt8} {c : UInt8} (h : l[0]? = some c) (hc : isL c = false) : rdN l = 0 := by rw [rdN_cons h, hc]; rfl
theorem below_drew_new {w w1 : World} {o : Obj} (hd : Drew (w.alloc o) w1) : Below (w.alloc o).heap.size (w.alloc o) w1 := hd.below _
theorem rdN_x {l : List UInt8} (h : l.take 2 = [120, 34]) : rdN l = 1 := by
  obtain ⟨r, rfl⟩ : ∃ r, l = 120 :: 34 :: r := by
    match l, h with
    | [], h => simp at h
    | [a], h => simp at h
    | a :: b :: r, h => simp at h; exact ⟨r, by rw [h.1, h.2]⟩
  show (if isL 120 then runN (120 :: 34 :: r) else 0) = 1
  rw [if_pos (by decide)]
  simp [runN, show isN 120 = true by decide, show isN 34 = false by decide]

set_option maxRecDepth 100000 in
set_option maxHeartbeats 3200000 in
theorem vrread_num (s : ByteArray) (w : World) (hs : s.size ≤ 1000000) (h0' : 0 < s.size) (hnum : numB (bs s) = true) : Calls Tryd.prog 27 #[.string s] w fun e w' => e = .returned (resV (numR (bs s))) ∧ Below w.heap.size w w' := by
  have hne := ne_empty s h0'
  have A0 := Lib.hid (bs_at s 0 h0')
  have hway : ((s[0].toNat : Int) == 45) = true ∨ (((s[0].toNat : Int) == 45) = false ∧ decide ((48 : Int) ≤ (s[0].toNat : Int)) = true ∧ decide ((s[0].toNat : Int) ≤ 57) = true) := by
    rw [numB_at A0.out] at hnum
    by_cases h2 : s[0].toNat = 45
    · exact .inl (by simp; omega)
    · rcases Bool.or_eq_true_iff.1 hnum with h | h
      · have := of_decide_eq_true h
        exact absurd (by rw [this]; rfl) h2
      · have := (isD_iff _).1 h
        exact .inr ⟨by simp; omega, by simp; omega, by simp; omega⟩
  have hL : isL s[0] = false := by
    rw [numB_at A0.out] at hnum
    rcases Bool.or_eq_true_iff.1 hnum with h | h
    · rw [of_decide_eq_true h]; decide
    · exact isL_D h
  have H0 := Lib.hid (fun w => nrread_any s w hs)
  rw [rdN_zero A0.out hL] at H0
  clear hnum hL
  obtain ⟨⟨z, m, e⟩, hN⟩ : ∃ r, numW (bs s) = r := ⟨_, rfl⟩
  have H1 : Hid (∀ w, Calls Tryd.prog 21 #[.string s] w fun e' w' => e' = .returned (.tuple #[.int .i64 z, .int .i64 (m : Nat), .int .i64 (e : Nat)]) ∧ Drew w w') := fun w => by
    have := rnumber_any s w hs
    unfold numV at this
    rw [hN] at this; exact this
  have Hr : Hid (numR (bs s) = numR2 (bs s) z m e) := by show _ = _; unfold numR; rw [hN]
  by_cases he : e = 0
  · subst he
    obtain ⟨hb1, hz1, hz2, hml⟩ := num_back hN
    rw [bs_length] at hml
    by_cases hl : ∃ h : m < s.size, s[m].toNat = 108
    · obtain ⟨hlt, hl⟩ := hl
      have Hv : Hid (resV (numR (bs s)) = .tuple #[VV 2 z ⟨#[]⟩, .int .i64 ((m + 1 : Nat) : Int), .int .i64 0]) := by
        show _ = _
        refine resV_eq (t := []) ?_
        rw [Hr.out]
        unfold numR2
        rw [if_pos rfl, if_pos (by rw [bs_at s m hlt, UInt8.toNat_inj.1 (show s[m].toNat = (108 : UInt8).toNat from hl)])]
      have d1 : ((s[m].toNat : Int) == 108) = true := by simp; omega
      clear hl hN hb1 Hr
      rcases hway with hw | ⟨hw, hw2, hw3⟩
      all_goals
        go_enter Tryd.func27, Tryd.ntmps27
        go_wp2_with fail
        refine (H0.out _).mono ?_
        rintro e w1 ⟨rfl, rfl⟩
        go_wp2_with fail
        refine (H1.out _).mono ?_
        rintro e w1 ⟨rfl, hd1⟩
        have HB := Lib.hid ((Blk3.new w _ _ _ _).below (below_drew_new hd1) (by simp))
        obtain ⟨c0, c1, c2, f0, f1, f2⟩ := HB.out
        have hb' := below_new (below_drew_new hd1)
        clear hd1
        go_wp2_with fail
        try simp only [Exit.inBlock, Exit.then]
        refine bodyPost_ret (results_v3 rfl _ _ rfl HB.out.set3) rfl ?_
        exact ⟨by rw [Hv.out]; rfl, by go_grown⟩
    · have Hv : Hid (numR (bs s) = resW (1, z, []) m (inE z)) := by
        show _ = _
        rw [Hr.out]
        unfold numR2
        rw [if_pos rfl, if_neg ?_]
        intro h108
        obtain ⟨h1, h2⟩ := List.getElem?_eq_some_iff.1 h108
        rw [bs_length] at h1
        refine hl ⟨h1, ?_⟩
        have h3 := bs_at s m h1
        rw [h108] at h3
        rw [← Option.some.inj h3]; rfl
      have hway2 : decide (m < s.size) = false ∨ ∃ h : m < s.size, ((s[m].toNat : Int) == 108) = false := by
        by_cases h : m < s.size
        · refine .inr ⟨h, ?_⟩
          have : s[m].toNat ≠ 108 := fun h2 => hl ⟨h, h2⟩
          simp; omega
        · exact .inl (by simpa using h)
      have H2 := Lib.hid (fun w => rfits32 z w hz1 hz2)
      have Hi : Hid (inE z = if fitsB z 32 = true then 0 else 10) := rfl
      clear hl hN hb1 Hr
      have Hf : Hid (∀ b, fitsB z 32 = b → resV (numR (bs s)) = bif b then .tuple #[VV 1 z ⟨#[]⟩, .int .i64 (m : Nat), .int .i64 0] else .tuple #[VV 0 0 ⟨#[]⟩, .int .i64 0, .int .i64 10]) := by
        intro b hb
        rw [Hv.out, Hi.out, hb]
        cases b
        · exact resV_eq (t := []) rfl
        · exact resV_eq (t := []) rfl
      generalize hfb : fitsB z 32 = fb at H2
      have Hf2 := Lib.hid (Hf.out fb hfb)
      clear Hf Hi Hv hfb
      cases fb
      all_goals
        rcases hway2 with hv | ⟨hlt, hv⟩
        all_goals
          rcases hway with hw | ⟨hw, hw2, hw3⟩
          all_goals
            go_enter Tryd.func27, Tryd.ntmps27
            go_wp2_with fail
            refine (H0.out _).mono ?_
            rintro e w1 ⟨rfl, rfl⟩
            go_wp2_with fail
            refine (H1.out _).mono ?_
            rintro e w1 ⟨rfl, hd1⟩
            have HB := Lib.hid ((Blk3.new w _ _ _ _).below (below_drew_new hd1) (by simp))
            have hb' := below_new (below_drew_new hd1)
            clear hd1
            go_wp2_with fail
            refine (H2.out _).mono ?_
            rintro e w2 ⟨rfl, rfl⟩
            obtain ⟨c0, c1, c2, f0, f1, f2⟩ := HB.out
            go_wp2_with fail
            try simp only [Exit.inBlock, Exit.then]
            refine bodyPost_ret (results_v3 rfl _ _ rfl HB.out.set3) rfl ?_
            exact ⟨by rw [Hf2.out]; rfl, by go_grown⟩
  · have Hv : Hid (resV (numR (bs s)) = .tuple #[VV 0 0 ⟨#[]⟩, .int .i64 0, .int .i64 (e : Nat)]) := by
      show _ = _
      refine resV_eq (t := []) ?_
      rw [Hr.out]
      unfold numR2
      rw [if_neg he]
    have d1 : ((e : Int) != 0) = true := by simp; omega
    clear hN Hr he
    rcases hway with hw | ⟨hw, hw2, hw3⟩
    all_goals
      go_enter Tryd.func27, Tryd.ntmps27
      go_wp2_with fail
      refine (H0.out _).mono ?_
      rintro e w1 ⟨rfl, rfl⟩
      go_wp2_with fail
      refine (H1.out _).mono ?_
      rintro e w1 ⟨rfl, hd1⟩
      have HB := Lib.hid ((Blk3.new w _ _ _ _).below (below_drew_new hd1) (by simp))
      obtain ⟨c0, c1, c2, f0, f1, f2⟩ := HB.out
      have hb' := below_new (below_drew_new hd1)
      clear hd1
      go_wp2_with fail
      try simp only [Exit.inBlock, Exit.then]
      refine bodyPost_ret (results_v3 rfl _ _ rfl HB.out.set3) rfl ?_
      exact ⟨by rw [Hv.out]; rfl, by go_grown⟩
end Go.Proofs.YtgoefndbpfhhaaaDoor
