/-
  Contracts of package typ's Cast and of the document's own.
-/
import Derived.Test.YtlfjkbghgfljaaaDoorTypMath
import Derived.Test.YtlfjkbghgfljaaaDoorValRightC
import Derived.Test.YtlfjkbghgfljaaaDoorValDigC
import Derived.Test.YtlfjkbghgfljaaaDoorValRefDigC
namespace Go.Proofs.YtlfjkbghgfljaaaDoor
open Go.RowKit

/-- a value and a type in their boxes, and the result's block -/
def BxC (w w1 : World) (a b c x y p q r : Value) : Prop := Blk3 w1 w.heap.size a b c ∧ Blk2 w1 (w.heap.size + 1) x y ∧ Blk3 w1 (w.heap.size + 2) p q r ∧ w.heap.size + 2 < w1.heap.size ∧ Below w.heap.size w w1
theorem BxC.new (w : World) (a b c x y p q r : Value) (t t2 t3 : TypeId) : BxC w (((w.alloc (.cells #[a, b, c] t)).alloc (.cells #[x, y] t2)).alloc (.cells #[p, q, r] t3)) a b c x y p q r := by
  have b1 : Below w.heap.size w (w.alloc (.cells #[a, b, c] t)) := (Below.refl _ _).alloc (Nat.le_refl _) _
  have b2 : Below w.heap.size w ((w.alloc (.cells #[a, b, c] t)).alloc (.cells #[x, y] t2)) := b1.alloc (by simp) _
  have b3 : Below w.heap.size w (((w.alloc (.cells #[a, b, c] t)).alloc (.cells #[x, y] t2)).alloc (.cells #[p, q, r] t3)) := b2.alloc (by simp; omega) _
  refine ⟨((Blk3.new w a b c t).below ((Below.refl _ _).alloc (Nat.le_refl _) _) (by simp)).below ((Below.refl _ _).alloc (Nat.le_refl _) _) (by simp; omega), (Blk2.new _ _ x y t2 (by simp)).alloc (by simp) _, Blk3.new' _ _ p q r t3 (by simp), by simp, b3⟩
theorem BxC.step {w w1 w2 : World} {a b c x y p q r : Value} (h : BxC w w1 a b c x y p q r) (hb : Below w1.heap.size w1 w2) : BxC w w2 a b c x y p q r := by
  obtain ⟨h1, h2, h3, h4, h5⟩ := h
  have := hb.size
  exact ⟨h1.below hb (by omega), h2.below hb (by omega), h3.below hb h4, by omega, h5.trans (hb.mono (by omega))⟩

/-- the string that a value becomes -/
def conS (k n : Int) (s : ByteArray) : ByteArray := bif numK k then ⟨(dz n).toArray⟩ else s
set_option maxHeartbeats 800000 in
theorem content_any (k n : Int) (s : ByteArray) (w : World) (h1 : -9223372036854775808 ≤ n) (h2 : n < 9223372036854775808) : Calls Tryd.prog 34 #[VV k n s] w fun e w' => e = .returned (.string (conS k n s)) ∧ Below w.heap.size w w' := by
  have HN := Lib.hid (fun w => isnum_any k w)
  have HD := Lib.hid (fun w => digits_any n w h1 h2)
  clear h1 h2
  have Hv : Hid (conS k n s = bif numK k then ⟨(dz n).toArray⟩ else s) := rfl
  generalize numK k = b at HN Hv
  generalize (⟨(dz n).toArray⟩ : ByteArray) = D at HD Hv
  cases b
  · go_enter Tryd.func34, Tryd.ntmps34
    go_wp2_with fail
    refine (HN.out _).mono ?_
    rintro e w1 ⟨rfl, rfl⟩
    go_wp2_with fail
    go_ret
    exact ⟨by rw [Hv.out]; rfl, by go_grown⟩
  · go_enter Tryd.func34, Tryd.ntmps34
    go_wp2_with fail
    refine (HN.out _).mono ?_
    rintro e w1 ⟨rfl, rfl⟩
    go_wp2_with fail
    refine (HD.out _).mono ?_
    rintro e w1 ⟨rfl, hb⟩
    have hb' := below_new hb
    go_wp2_with fail
    go_ret
    exact ⟨by rw [Hv.out]; rfl, hb'⟩

/-- what Cast returns -/
def cR (v : Value) (e : Int) : Value := .tuple #[v, .int .i64 e]
def castR (k n : Int) (s : ByteArray) (tk tm : Int) : Value :=
  bif rightV k n (bs s) then bif rightT tk tm then bif k == 0 then cR (VV 0 0 ⟨#[]⟩) 0 else bif decide (k ≤ tk) then bif numK tk then cR (VV tk n ⟨#[]⟩) 0 else
    bif decide (tm < ((conS k n s).size : Int)) then cR (VV 0 0 ⟨#[]⟩) 10 else cR (VV tk 0 (conS k n s)) 0
  else cR (VV 0 0 ⟨#[]⟩) 9 else cR (VV 0 0 ⟨#[]⟩) 2 else cR (VV 0 0 ⟨#[]⟩) 2
def rcastR (k n : Int) (s : ByteArray) (tk tm : Int) : Value :=
  bif rightV k n (bs s) then bif rightT tk tm then bif k == 0 then cR (VV k n s) 0 else bif decide (tk < k) then cR (VV 0 0 ⟨#[]⟩) 9 else bif decide (tk < 3) then cR (VV tk n ⟨#[]⟩) 0 else
    bif decide (k < 3) then bif decide (tm < ((⟨(dz n).toArray⟩ : ByteArray).size : Int)) then cR (VV 0 0 ⟨#[]⟩) 10 else cR (VV tk 0 ⟨(dz n).toArray⟩) 0
    else bif decide (tm < (s.size : Int)) then cR (VV 0 0 ⟨#[]⟩) 10 else cR (VV tk 0 s) 0
  else cR (VV 0 0 ⟨#[]⟩) 2 else cR (VV 0 0 ⟨#[]⟩) 2
theorem rightV_kind {k n : Int} {l : List UInt8} (h : rightV k n l = true) : k = 0 ∨ k = 1 ∨ k = 2 ∨ k = 3 ∨ k = 4 := by
  rcases rightV_cases k n l with h' | h' | h' | h' | h' | h'
  · exact .inl h'.1
  · exact .inr (.inl h'.1)
  · exact .inr (.inr (.inl h'.1))
  · exact .inr (.inr (.inr (.inl h'.1)))
  · exact .inr (.inr (.inr (.inr h'.1)))
  · rw [h'.2.2.2.2.2] at h; cases h
theorem rightV_null {n : Int} {s : ByteArray} (h : rightV 0 n (bs s) = true) : n = 0 ∧ s = ⟨#[]⟩ := by
  unfold rightV at h
  simp at h
  refine ⟨h.1, is_empty s ?_⟩
  rw [← bs_length, h.2]; rfl
theorem rcastR_eq (k n : Int) (s : ByteArray) (tk tm : Int) : rcastR k n s tk tm = castR k n s tk tm := by
  unfold rcastR castR
  cases ha : rightV k n (bs s)
  · rfl
  cases hb : rightT tk tm
  · rfl
  have hk := rightV_kind ha
  have hb' := (rightT_iff tk tm).1 hb
  simp only [cond_true]
  by_cases h0 : k = 0
  · subst h0
    obtain ⟨rfl, rfl⟩ := rightV_null ha
    rfl
  · have e0 : (k == 0) = false := by simpa using h0
    rw [e0]
    simp only [cond_false]
    by_cases h1 : tk < k
    · have d1 : decide (tk < k) = true := by simpa using h1
      have d2 : decide (k ≤ tk) = false := by simp; omega
      rw [d1, d2]; rfl
    · have d1 : decide (tk < k) = false := by simp; omega
      have d2 : decide (k ≤ tk) = true := by simp; omega
      rw [d1, d2]
      simp only [cond_false, cond_true]
      have d3 : decide (tk < 3) = numK tk := by
        apply bool_eq
        rw [numK_iff, decide_eq_true_eq]
        omega
      rw [d3]
      cases numK tk
      · simp only [cond_false]
        unfold conS
        have d4 : decide (k < 3) = numK k := by
          apply bool_eq
          rw [numK_iff, decide_eq_true_eq]
          omega
        rw [d4]
        cases numK k <;> rfl
      · rfl
set_option maxRecDepth 100000 in
set_option maxHeartbeats 3200000 in
theorem tcast_any (k n : Int) (s : ByteArray) (tk tm : Int) (w : World) (ht : UTab w) (h1 : -9223372036854775808 ≤ n) (h2 : n < 9223372036854775808) :
    Calls Tryd.prog 18 #[VV k n s, TT tk tm] w fun e w' => e = .returned (castR k n s tk tm) ∧ Below w.heap.size w w' := by
  have HT := Lib.hid ht; clear ht
  have HV := Lib.hid (fun w ht => vright_any k n s w ht)
  have HR := Lib.hid (fun w => tright_any tk tm w)
  have HC := Lib.hid (fun w => reach_any tk k w)
  have HN := Lib.hid (fun w => isnum_any tk w)
  have HD := Lib.hid (fun w => content_any k n s w h1 h2)
  clear h1 h2
  have Hv : Hid (castR k n s tk tm = bif rightV k n (bs s) then bif rightT tk tm then bif k == 0 then cR (VV 0 0 ⟨#[]⟩) 0 else bif decide (k ≤ tk) then bif numK tk then cR (VV tk n ⟨#[]⟩) 0 else
    bif decide (tm < ((conS k n s).size : Int)) then cR (VV 0 0 ⟨#[]⟩) 10 else cR (VV tk 0 (conS k n s)) 0
    else cR (VV 0 0 ⟨#[]⟩) 9 else cR (VV 0 0 ⟨#[]⟩) 2 else cR (VV 0 0 ⟨#[]⟩) 2) := rfl
  generalize rightV k n (bs s) = a at HV Hv
  generalize rightT tk tm = b at HR Hv
  generalize hz : (k == 0) = z at Hv
  generalize decide (k ≤ tk) = c at HC Hv
  generalize numK tk = d at HN Hv
  generalize conS k n s = D at HD Hv
  generalize hg : decide (tm < (D.size : Int)) = g at Hv
  cases a
  · go_enter Tryd.func18, Tryd.ntmps18
    go_wp2_with fail
    refine (HV.out _ (((HT.out.alloc _).alloc _).alloc _)).mono ?_
    rintro e w1 ⟨rfl, hb1⟩
    have HB := Lib.hid ((BxC.new w _ _ _ _ _ _ _ _ _ _ _).step hb1)
    clear hb1
    obtain ⟨⟨c0, c1, c2, _⟩, ⟨d0, d1, _⟩, ⟨e0, e1, e2, f0, f1, f2⟩, _, hb'⟩ := HB.out
    go_wp2_with fail
    try simp only [Exit.inBlock, Exit.then]
    refine bodyPost_ret (results_v2 rfl _ _ rfl HB.out.2.2.1.set3) rfl ?_
    exact ⟨by rw [Hv.out]; rfl, by go_grown⟩
  cases b
  · go_enter Tryd.func18, Tryd.ntmps18
    go_wp2_with fail
    refine (HV.out _ (((HT.out.alloc _).alloc _).alloc _)).mono ?_
    rintro e w1 ⟨rfl, hb1⟩
    have HB := Lib.hid ((BxC.new w _ _ _ _ _ _ _ _ _ _ _).step hb1)
    clear hb1
    obtain ⟨⟨c0, c1, c2, _⟩, ⟨d0, d1, _⟩, _⟩ := HB.out
    go_wp2_with fail
    refine (HR.out _).mono ?_
    rintro e w2 ⟨rfl, hb2⟩
    have HB2 := Lib.hid (HB.out.step hb2)
    clear hb2 c0 c1 c2 d0 d1
    obtain ⟨⟨c0, c1, c2, _⟩, ⟨d0, d1, _⟩, ⟨e0, e1, e2, f0, f1, f2⟩, _, hb'⟩ := HB2.out
    go_wp2_with fail
    try simp only [Exit.inBlock, Exit.then]
    refine bodyPost_ret (results_v2 rfl _ _ rfl HB2.out.2.2.1.set3) rfl ?_
    exact ⟨by rw [Hv.out]; rfl, by go_grown⟩
  cases z
  · cases c
    · go_enter Tryd.func18, Tryd.ntmps18
      go_wp2_with fail
      refine (HV.out _ (((HT.out.alloc _).alloc _).alloc _)).mono ?_
      rintro e w1 ⟨rfl, hb1⟩
      have HB := Lib.hid ((BxC.new w _ _ _ _ _ _ _ _ _ _ _).step hb1)
      clear hb1
      obtain ⟨⟨c0, c1, c2, _⟩, ⟨d0, d1, _⟩, _⟩ := HB.out
      go_wp2_with fail
      refine (HR.out _).mono ?_
      rintro e w2 ⟨rfl, hb2⟩
      have HB2 := Lib.hid (HB.out.step hb2)
      clear hb2 c0 c1 c2 d0 d1
      obtain ⟨⟨c0, c1, c2, _⟩, ⟨d0, d1, _⟩, _⟩ := HB2.out
      go_wp2_with fail
      refine (HC.out _).mono ?_
      rintro e w3 ⟨rfl, rfl⟩
      clear c0 c1 c2 d0 d1
      obtain ⟨⟨c0, c1, c2, _⟩, ⟨d0, d1, _⟩, ⟨e0, e1, e2, f0, f1, f2⟩, _, hb'⟩ := HB2.out
      go_wp2_with fail
      try simp only [Exit.inBlock, Exit.then]
      refine bodyPost_ret (results_v2 rfl _ _ rfl HB2.out.2.2.1.set3) rfl ?_
      exact ⟨by rw [Hv.out]; rfl, by go_grown⟩
    · cases d
      · cases g
        · go_enter Tryd.func18, Tryd.ntmps18
          go_wp2_with fail
          refine (HV.out _ (((HT.out.alloc _).alloc _).alloc _)).mono ?_
          rintro e w1 ⟨rfl, hb1⟩
          have HB := Lib.hid ((BxC.new w _ _ _ _ _ _ _ _ _ _ _).step hb1)
          clear hb1
          obtain ⟨⟨c0, c1, c2, _⟩, ⟨d0, d1, _⟩, _⟩ := HB.out
          go_wp2_with fail
          refine (HR.out _).mono ?_
          rintro e w2 ⟨rfl, hb2⟩
          have HB2 := Lib.hid (HB.out.step hb2)
          clear hb2 c0 c1 c2 d0 d1
          obtain ⟨⟨c0, c1, c2, _⟩, ⟨d0, d1, _⟩, _⟩ := HB2.out
          go_wp2_with fail
          refine (HC.out _).mono ?_
          rintro e w3 ⟨rfl, rfl⟩
          clear c0 c1 c2 d0 d1
          obtain ⟨⟨c0, c1, c2, _⟩, ⟨d0, d1, _⟩, _⟩ := HB2.out
          go_wp2_with fail
          refine (HN.out _).mono ?_
          rintro e w3 ⟨rfl, rfl⟩
          clear c0 c1 c2 d0 d1
          obtain ⟨⟨c0, c1, c2, _⟩, ⟨d0, d1, _⟩, _⟩ := HB2.out
          go_wp2_with fail
          refine (HD.out _).mono ?_
          rintro e w4 ⟨rfl, hb3⟩
          have HB3 := Lib.hid (HB2.out.step hb3)
          clear hb3 c0 c1 c2 d0 d1
          obtain ⟨⟨c0, c1, c2, _⟩, ⟨d0, d1, _⟩, ⟨e0, e1, e2, f0, f1, f2⟩, _, hb'⟩ := HB3.out
          go_wp2_with fail
          try simp only [Exit.inBlock, Exit.then]
          refine bodyPost_ret (results_v2 rfl _ _ rfl HB3.out.2.2.1.set3) rfl ?_
          exact ⟨by rw [Hv.out]; rfl, by go_grown⟩
        · go_enter Tryd.func18, Tryd.ntmps18
          go_wp2_with fail
          refine (HV.out _ (((HT.out.alloc _).alloc _).alloc _)).mono ?_
          rintro e w1 ⟨rfl, hb1⟩
          have HB := Lib.hid ((BxC.new w _ _ _ _ _ _ _ _ _ _ _).step hb1)
          clear hb1
          obtain ⟨⟨c0, c1, c2, _⟩, ⟨d0, d1, _⟩, _⟩ := HB.out
          go_wp2_with fail
          refine (HR.out _).mono ?_
          rintro e w2 ⟨rfl, hb2⟩
          have HB2 := Lib.hid (HB.out.step hb2)
          clear hb2 c0 c1 c2 d0 d1
          obtain ⟨⟨c0, c1, c2, _⟩, ⟨d0, d1, _⟩, _⟩ := HB2.out
          go_wp2_with fail
          refine (HC.out _).mono ?_
          rintro e w3 ⟨rfl, rfl⟩
          clear c0 c1 c2 d0 d1
          obtain ⟨⟨c0, c1, c2, _⟩, ⟨d0, d1, _⟩, _⟩ := HB2.out
          go_wp2_with fail
          refine (HN.out _).mono ?_
          rintro e w3 ⟨rfl, rfl⟩
          clear c0 c1 c2 d0 d1
          obtain ⟨⟨c0, c1, c2, _⟩, ⟨d0, d1, _⟩, _⟩ := HB2.out
          go_wp2_with fail
          refine (HD.out _).mono ?_
          rintro e w4 ⟨rfl, hb3⟩
          have HB3 := Lib.hid (HB2.out.step hb3)
          clear hb3 c0 c1 c2 d0 d1
          obtain ⟨⟨c0, c1, c2, _⟩, ⟨d0, d1, _⟩, ⟨e0, e1, e2, f0, f1, f2⟩, _, hb'⟩ := HB3.out
          go_wp2_with fail
          try simp only [Exit.inBlock, Exit.then]
          refine bodyPost_ret (results_v2 rfl _ _ rfl HB3.out.2.2.1.set3) rfl ?_
          exact ⟨by rw [Hv.out]; rfl, by go_grown⟩
      · go_enter Tryd.func18, Tryd.ntmps18
        go_wp2_with fail
        refine (HV.out _ (((HT.out.alloc _).alloc _).alloc _)).mono ?_
        rintro e w1 ⟨rfl, hb1⟩
        have HB := Lib.hid ((BxC.new w _ _ _ _ _ _ _ _ _ _ _).step hb1)
        clear hb1
        obtain ⟨⟨c0, c1, c2, _⟩, ⟨d0, d1, _⟩, _⟩ := HB.out
        go_wp2_with fail
        refine (HR.out _).mono ?_
        rintro e w2 ⟨rfl, hb2⟩
        have HB2 := Lib.hid (HB.out.step hb2)
        clear hb2 c0 c1 c2 d0 d1
        obtain ⟨⟨c0, c1, c2, _⟩, ⟨d0, d1, _⟩, _⟩ := HB2.out
        go_wp2_with fail
        refine (HC.out _).mono ?_
        rintro e w3 ⟨rfl, rfl⟩
        clear c0 c1 c2 d0 d1
        obtain ⟨⟨c0, c1, c2, _⟩, ⟨d0, d1, _⟩, _⟩ := HB2.out
        go_wp2_with fail
        refine (HN.out _).mono ?_
        rintro e w3 ⟨rfl, rfl⟩
        clear c0 c1 c2 d0 d1
        obtain ⟨⟨c0, c1, c2, _⟩, ⟨d0, d1, _⟩, ⟨e0, e1, e2, f0, f1, f2⟩, _, hb'⟩ := HB2.out
        go_wp2_with fail
        try simp only [Exit.inBlock, Exit.then]
        refine bodyPost_ret (results_v2 rfl _ _ rfl HB2.out.2.2.1.set3) rfl ?_
        exact ⟨by rw [Hv.out]; rfl, by go_grown⟩
  · go_enter Tryd.func18, Tryd.ntmps18
    go_wp2_with fail
    refine (HV.out _ (((HT.out.alloc _).alloc _).alloc _)).mono ?_
    rintro e w1 ⟨rfl, hb1⟩
    have HB := Lib.hid ((BxC.new w _ _ _ _ _ _ _ _ _ _ _).step hb1)
    clear hb1
    obtain ⟨⟨c0, c1, c2, _⟩, ⟨d0, d1, _⟩, _⟩ := HB.out
    go_wp2_with fail
    refine (HR.out _).mono ?_
    rintro e w2 ⟨rfl, hb2⟩
    have HB2 := Lib.hid (HB.out.step hb2)
    clear hb2 c0 c1 c2 d0 d1
    obtain ⟨⟨c0, c1, c2, _⟩, ⟨d0, d1, _⟩, ⟨e0, e1, e2, f0, f1, f2⟩, _, hb'⟩ := HB2.out
    go_wp2_with fail
    try simp only [Exit.inBlock, Exit.then]
    refine bodyPost_ret (results_v2 rfl _ _ rfl HB2.out.2.2.1.set3) rfl ?_
    exact ⟨by rw [Hv.out]; rfl, by go_grown⟩
end Go.Proofs.YtlfjkbghgfljaaaDoor
