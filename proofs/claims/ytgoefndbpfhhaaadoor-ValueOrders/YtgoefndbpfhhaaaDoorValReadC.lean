/-
  Contracts of package value's sized, readNumber, readText.
-/
import Derived.Test.YtgoefndbpfhhaaaDoorValNumberC
import Derived.Test.YtgoefndbpfhhaaaDoorValReadMath
import Derived.Test.YtgoefndbpfhhaaaDoorNameUnqC
namespace Go.Proofs.YtgoefndbpfhhaaaDoor
open Go.RowKit

theorem Blk3.alloc {w : World} {b : Nat} {x y z : Value} (h : Blk3 w b x y z) (hb : b < w.heap.size) (o : Obj) : Blk3 (w.alloc o) b x y z := h.below ((Below.refl w.heap.size w).alloc (Nat.le_refl _) o) hb
theorem new_lt {w w1 : World} {o : Obj} (hb : Below (w.alloc o).heap.size (w.alloc o) w1) : w.heap.size < w1.heap.size := by have := hb.size; simp at this; omega

set_option maxHeartbeats 400000 in
theorem sized_ok (k n : Int) (s : ByteArray) (z : Int) (w : World) : Calls Tryd.prog 67 #[VV k n s, .int .i64 z, .int .i64 0] w fun e w' => e = .returned (.tuple #[VV k n s, .int .i64 z, .int .i64 0]) ∧ Below w.heap.size w w' := by
  go_enter Tryd.func67, Tryd.ntmps67
  go_wp2_with fail
  go_returns
  exact ⟨rfl, by go_grown⟩
set_option maxHeartbeats 400000 in
theorem sized_err (k n : Int) (s : ByteArray) (z x : Int) (w : World) (hx : (x != 0) = true) : Calls Tryd.prog 67 #[VV k n s, .int .i64 z, .int .i64 x] w fun e w' => e = .returned (.tuple #[VV 0 0 ⟨#[]⟩, .int .i64 0, .int .i64 x]) ∧ Below w.heap.size w w' := by
  go_enter Tryd.func67, Tryd.ntmps67
  go_wp2_with fail
  go_returns
  exact ⟨rfl, by go_grown⟩

/-- a value as the program has it -/
def valV (v : Val) : Value := VV v.1 v.2.1 ⟨v.2.2.toArray⟩
def resV (r : Val × Nat × Nat) : Value := .tuple #[valV r.1, .int .i64 (r.2.1 : Nat), .int .i64 (r.2.2 : Nat)]
theorem resV_eq {r : Val × Nat × Nat} {k n : Int} {t : List UInt8} {m e : Nat} (h : r = ((k, n, t), m, e)) : resV r = .tuple #[VV k n ⟨t.toArray⟩, .int .i64 (m : Nat), .int .i64 (e : Nat)] := by rw [h]; rfl

set_option maxRecDepth 100000 in
set_option maxHeartbeats 1600000 in
theorem readNumber_any (s : ByteArray) (w : World) (hs : s.size ≤ 1000000) : Calls Tryd.prog 48 #[.string s] w fun e w' => e = .returned (resV (numR (bs s))) ∧ Below w.heap.size w w' := by
  obtain ⟨⟨z, m, e⟩, hN⟩ : ∃ r, numW (bs s) = r := ⟨_, rfl⟩
  have H1 : Hid (∀ w, Calls Tryd.prog 20 #[.string s] w fun e' w' => e' = .returned (.tuple #[.int .i64 z, .int .i64 (m : Nat), .int .i64 (e : Nat)]) ∧ w = w') := fun w => by
    have := number_any s w hs
    unfold numV at this
    rw [hN] at this; exact this
  have Hr : Hid (numR (bs s) = numR2 (bs s) z m e) := by show _ = _; unfold numR; rw [hN]
  by_cases he : e = 0
  · subst he
    obtain ⟨hb1, hz1, hz2, hml⟩ := num_back hN
    rw [bs_length] at hml
    by_cases hl : ∃ h : m < s.size, s[m].toNat = 108
    · obtain ⟨hlt, hl⟩ := hl
      have Hv : Hid (resV (numR (bs s)) = .tuple #[VV 2 z ⟨#[]⟩, .int .i64 ((m + 1 : Nat) : Int), .int .i64 0]) := by
        show _ = _
        refine resV_eq (t := []) ?_
        rw [Hr.out]
        unfold numR2
        rw [if_pos rfl, if_pos (by rw [bs_at s m hlt, UInt8.toNat_inj.1 (show s[m].toNat = (108 : UInt8).toNat from hl)])]
      have d1 : ((s[m].toNat : Int) == 108) = true := by simp; omega
      clear hl hN hb1 Hr
      go_enter Tryd.func48, Tryd.ntmps48
      go_wp2_with fail
      refine (H1.out _).mono ?_
      rintro e w1 ⟨rfl, rfl⟩
      go_wp2_with fail
      refine (vlong_any z _).mono ?_
      rintro e w1 ⟨rfl, hb1⟩
      have HB := Lib.hid ((Blk3.new w _ _ _ _).below hb1 (by simp))
      obtain ⟨c0, c1, c2, f0, f1, f2⟩ := HB.out
      have hb' := below_new hb1
      go_wp2_with fail
      try simp only [Exit.inBlock, Exit.then]
      refine bodyPost_ret (results_v3 rfl _ _ rfl HB.out.set3) rfl ?_
      exact ⟨by rw [Hv.out]; rfl, by go_grown⟩
    · have Hv : Hid (numR (bs s) = resW (1, z, []) m (inE z)) := by
        show _ = _
        rw [Hr.out]
        unfold numR2
        rw [if_pos rfl, if_neg ?_]
        intro h108
        obtain ⟨h1, h2⟩ := List.getElem?_eq_some_iff.1 h108
        rw [bs_length] at h1
        refine hl ⟨h1, ?_⟩
        have h3 := bs_at s m h1
        rw [h108] at h3
        rw [← Option.some.inj h3]; rfl
      have hway : decide (m < s.size) = false ∨ ∃ h : m < s.size, ((s[m].toNat : Int) == 108) = false := by
        by_cases h : m < s.size
        · refine .inr ⟨h, ?_⟩
          have : s[m].toNat ≠ 108 := fun h2 => hl ⟨h, h2⟩
          simp; omega
        · exact .inl (by simpa using h)
      have H2 := Lib.hid (fun w => vint_any z w)
      have HiV : Hid (inV z = .tuple #[if inE z = 0 then VV 1 z ⟨#[]⟩ else VV 0 0 ⟨#[]⟩, .int .i64 (inE z : Nat)]) := rfl
      have hc : inE z = 0 ∨ inE z = 10 := by unfold inE; split <;> simp
      clear hl hN hb1 Hr
      rcases hc with hc | hc
      · rw [hc] at HiV Hv
        rw [HiV.out] at H2
        have Hf : Hid (resV (numR (bs s)) = .tuple #[VV 1 z ⟨#[]⟩, .int .i64 (m : Nat), .int .i64 0]) := by show _ = _; rw [Hv.out]; exact resV_eq (t := []) rfl
        rcases hway with hw | ⟨hlt, hw⟩
        all_goals
          go_enter Tryd.func48, Tryd.ntmps48
          go_wp2_with fail
          refine (H1.out _).mono ?_
          rintro e w1 ⟨rfl, rfl⟩
          go_wp2_with fail
          refine (H2.out _).mono ?_
          rintro e w1 ⟨rfl, hb1⟩
          have HB := Lib.hid ((Blk3.new w _ _ _ _).below hb1 (by simp))
          have hlt1 := new_lt hb1
          have hb' := below_new hb1
          go_wp2_with fail
          refine (sized_ok _ _ _ _ _).mono ?_
          rintro e w2 ⟨rfl, hb2⟩
          have HB2 := Lib.hid ((HB.out.alloc hlt1 _).below hb2 (by simp; omega))
          have hb2' := hb'.trans ((below_new hb2).mono (Nat.le_of_lt hlt1))
          obtain ⟨c0, c1, c2, f0, f1, f2⟩ := HB2.out
          go_wp2_with fail
          try simp only [Exit.inBlock, Exit.then]
          refine bodyPost_ret (results_v3 rfl _ _ rfl HB2.out.set3) rfl ?_
          exact ⟨by rw [Hf.out]; rfl, by go_grown⟩
      · rw [hc] at HiV Hv
        rw [HiV.out] at H2
        have Hf : Hid (resV (numR (bs s)) = .tuple #[VV 0 0 ⟨#[]⟩, .int .i64 0, .int .i64 10]) := by show _ = _; rw [Hv.out]; exact resV_eq (t := []) rfl
        rcases hway with hw | ⟨hlt, hw⟩
        all_goals
          go_enter Tryd.func48, Tryd.ntmps48
          go_wp2_with fail
          refine (H1.out _).mono ?_
          rintro e w1 ⟨rfl, rfl⟩
          go_wp2_with fail
          refine (H2.out _).mono ?_
          rintro e w1 ⟨rfl, hb1⟩
          have HB := Lib.hid ((Blk3.new w _ _ _ _).below hb1 (by simp))
          have hlt1 := new_lt hb1
          have hb' := below_new hb1
          go_wp2_with fail
          refine (sized_err _ _ _ _ _ _ (by decide)).mono ?_
          rintro e w2 ⟨rfl, hb2⟩
          have HB2 := Lib.hid ((HB.out.alloc hlt1 _).below hb2 (by simp; omega))
          have hb2' := hb'.trans ((below_new hb2).mono (Nat.le_of_lt hlt1))
          obtain ⟨c0, c1, c2, f0, f1, f2⟩ := HB2.out
          go_wp2_with fail
          try simp only [Exit.inBlock, Exit.then]
          refine bodyPost_ret (results_v3 rfl _ _ rfl HB2.out.set3) rfl ?_
          exact ⟨by rw [Hf.out]; rfl, by go_grown⟩
  · have Hv : Hid (resV (numR (bs s)) = .tuple #[VV 0 0 ⟨#[]⟩, .int .i64 0, .int .i64 (e : Nat)]) := by
      show _ = _
      refine resV_eq (t := []) ?_
      rw [Hr.out]
      unfold numR2
      rw [if_neg he]
    have d1 : ((e : Int) != 0) = true := by simp; omega
    clear hN Hr he
    go_enter Tryd.func48, Tryd.ntmps48
    go_wp2_with fail
    refine (H1.out _).mono ?_
    rintro e w1 ⟨rfl, rfl⟩
    go_wp2_with fail
    go_returns
    exact ⟨by rw [Hv.out], by go_grown⟩

theorem txV_ok {s : ByteArray} (h : txE (bs s) = 0) : txV s = .tuple #[VV 3 0 s, .int .i64 0] := by unfold txV; rw [h]; rfl
theorem txV_err {s : ByteArray} {e : Nat} (h : txE (bs s) = e) (he : e ≠ 0) : txV s = .tuple #[VV 0 0 ⟨#[]⟩, .int .i64 (e : Nat)] := by unfold txV; rw [h, if_neg he]
theorem byV_ok {s : ByteArray} (h : byE (bs s) = 0) : byV s = .tuple #[VV 4 0 s, .int .i64 0] := by unfold byV; rw [h]; rfl
theorem byV_err {s : ByteArray} {e : Nat} (h : byE (bs s) = e) (he : e ≠ 0) : byV s = .tuple #[VV 0 0 ⟨#[]⟩, .int .i64 (e : Nat)] := by unfold byV; rw [h, if_neg he]
set_option maxRecDepth 100000 in
set_option maxHeartbeats 1600000 in
theorem readText_any (s : ByteArray) (w : World) (ht : UTab w) (hs : s.size ≤ 1000000) : Calls Tryd.prog 49 #[.string s] w fun e w' => e = .returned (resV (txtR (bs s))) ∧ Below w.heap.size w w' := by
  have HT := Lib.hid ht; clear ht
  have H1 := Lib.hid (fun w => unquote_any s w hs)
  obtain ⟨⟨t, m, ok⟩, hU⟩ : ∃ r, uq (bs s) = r := ⟨_, rfl⟩
  cases ok
  · obtain ⟨rfl, rfl⟩ := uq_false hU
    rw [uqV_no hU] at H1
    have Hv : Hid (resV (txtR (bs s)) = .tuple #[VV 0 0 ⟨#[]⟩, .int .i64 0, .int .i64 5]) := by
      show _ = _
      refine resV_eq (t := []) ?_
      unfold txtR
      rw [hU]; rfl
    go_enter Tryd.func49, Tryd.ntmps49
    go_wp2_with fail
    refine (H1.out _).mono ?_
    rintro e w1 ⟨rfl, hb1⟩
    have HB := Lib.hid ((Blk3.new w _ _ _ _).below hb1 (by simp))
    obtain ⟨c0, c1, c2, f0, f1, f2⟩ := HB.out
    have hb' := below_new hb1
    go_wp2_with fail
    try simp only [Exit.inBlock, Exit.then]
    refine bodyPost_ret (results_v3 rfl _ _ rfl HB.out.set3) rfl ?_
    exact ⟨by rw [Hv.out]; rfl, by go_grown⟩
  · rw [uqV_yes hU] at H1
    have Hv : Hid (txtR (bs s) = resW (3, 0, t) m (txE t)) := by
      show _ = _
      unfold txtR
      rw [hU]; rfl
    have H2 : Hid (∀ w, UTab w → Calls Tryd.prog 11 #[.string ⟨t.toArray⟩] w fun e w' => e = .returned (txV ⟨t.toArray⟩) ∧ Below w.heap.size w w') := fun w h => vtext_any _ w h
    have hbs : bs (⟨t.toArray⟩ : ByteArray) = t := bs_mk t
    rcases txE_cases t with hc | hc | hc
    · have Hf : Hid (resV (txtR (bs s)) = .tuple #[VV 3 0 ⟨t.toArray⟩, .int .i64 (m : Nat), .int .i64 0]) := by show _ = _; rw [Hv.out, hc]; exact resV_eq rfl
      rw [txV_ok (by rw [hbs]; exact hc)] at H2
      clear hbs hU Hv
      generalize (⟨t.toArray⟩ : ByteArray) = T at H1 H2 Hf
      go_enter Tryd.func49, Tryd.ntmps49
      go_wp2_with fail
      refine (H1.out _).mono ?_
      rintro e w1 ⟨rfl, hb1⟩
      have HB := Lib.hid ((Blk3.new w _ _ _ _).below hb1 (by simp))
      have hlt1 := new_lt hb1
      have hb' := below_new hb1
      have HT1 := Lib.hid (HT.out.below hb' (Nat.le_refl _))
      clear hb1
      go_wp2_with fail
      refine (H2.out _ HT1.out).mono ?_
      rintro e w2 ⟨rfl, hb2⟩
      have HB2 := Lib.hid (HB.out.below hb2 hlt1)
      have hlt2 : w.heap.size < w2.heap.size := by have := hb2.size; omega
      have hb2' := hb'.trans (hb2.mono (Nat.le_of_lt hlt1))
      clear hb2 hb' HB HT1
      go_wp2_with fail
      refine (sized_ok _ _ _ _ _).mono ?_
      rintro e w3 ⟨rfl, hb3⟩
      have HB3 := Lib.hid ((HB2.out.alloc hlt2 _).below hb3 (by simp; omega))
      have hb3' := hb2'.trans ((below_new hb3).mono (Nat.le_of_lt hlt2))
      clear hb3 hb2'
      obtain ⟨c0, c1, c2, f0, f1, f2⟩ := HB3.out
      go_wp2_with fail
      try simp only [Exit.inBlock, Exit.then]
      refine bodyPost_ret (results_v3 rfl _ _ rfl HB3.out.set3) rfl ?_
      exact ⟨by rw [Hf.out]; rfl, by go_grown⟩
    all_goals
      have Hf : Hid (resV (txtR (bs s)) = .tuple #[VV 0 0 ⟨#[]⟩, .int .i64 0, .int .i64 (txE t : Nat)]) := by show _ = _; rw [Hv.out, hc]; exact resV_eq (t := []) rfl
      rw [txV_err (e := txE t) (by rw [hbs]) (by rw [hc]; decide)] at H2
      rw [hc] at H2 Hf
      clear hbs hU Hv
      generalize (⟨t.toArray⟩ : ByteArray) = T at H1 H2
      go_enter Tryd.func49, Tryd.ntmps49
      go_wp2_with fail
      refine (H1.out _).mono ?_
      rintro e w1 ⟨rfl, hb1⟩
      have HB := Lib.hid ((Blk3.new w _ _ _ _).below hb1 (by simp))
      have hlt1 := new_lt hb1
      have hb' := below_new hb1
      have HT1 := Lib.hid (HT.out.below hb' (Nat.le_refl _))
      clear hb1
      go_wp2_with fail
      refine (H2.out _ HT1.out).mono ?_
      rintro e w2 ⟨rfl, hb2⟩
      have HB2 := Lib.hid (HB.out.below hb2 hlt1)
      have hlt2 : w.heap.size < w2.heap.size := by have := hb2.size; omega
      have hb2' := hb'.trans (hb2.mono (Nat.le_of_lt hlt1))
      clear hb2 hb' HB HT1
      go_wp2_with fail
      refine (sized_err _ _ _ _ _ _ (by decide)).mono ?_
      rintro e w3 ⟨rfl, hb3⟩
      have HB3 := Lib.hid ((HB2.out.alloc hlt2 _).below hb3 (by simp; omega))
      have hb3' := hb2'.trans ((below_new hb3).mono (Nat.le_of_lt hlt2))
      clear hb3 hb2'
      obtain ⟨c0, c1, c2, f0, f1, f2⟩ := HB3.out
      go_wp2_with fail
      try simp only [Exit.inBlock, Exit.then]
      refine bodyPost_ret (results_v3 rfl _ _ rfl HB3.out.set3) rfl ?_
      exact ⟨by rw [Hf.out]; rfl, by go_grown⟩
end Go.Proofs.YtgoefndbpfhhaaaDoor
