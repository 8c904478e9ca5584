/-
  Contracts of package typ's Fits and of the document's own.
-/
import Derived.Test.YtlfjkbghgfljaaaDoorTypMath
import Derived.Test.YtlfjkbghgfljaaaDoorValRightC
namespace Go.Proofs.YtlfjkbghgfljaaaDoor
open Go.RowKit

def BxTV (w w1 : World) (x y a b c : Value) : Prop := Blk2 w1 w.heap.size x y ∧ Blk3 w1 (w.heap.size + 1) a b c ∧ w.heap.size + 1 < w1.heap.size ∧ Below w.heap.size w w1
theorem BxTV.new (w : World) (x y a b c : Value) (t t2 : TypeId) : BxTV w ((w.alloc (.cells #[x, y] t)).alloc (.cells #[a, b, c] t2)) x y a b c :=
  ⟨(Blk2.new w _ x y t rfl).alloc (by simp) _, Blk3.new' _ _ a b c t2 (by simp), by simp, ((Below.refl _ _).alloc (Nat.le_refl _) _).alloc (by simp) _⟩
theorem BxTV.step {w w1 w2 : World} {x y a b c : Value} (h : BxTV w w1 x y a b c) (hb : Below w1.heap.size w1 w2) : BxTV w w2 x y a b c := by
  obtain ⟨h1, h2, h3, h4⟩ := h
  have := hb.size
  exact ⟨h1.below hb (by omega), h2.below hb h3, by omega, h4.trans (hb.mono (by omega))⟩
/-- does the value fit the type? -/
def fitT (k m k' n : Int) (s : ByteArray) : Bool := rightT k m && rightV k' n (bs s) && (k' == k) && decide ((s.size : Int) ≤ m)
def rfitT (k m k' n : Int) (s : ByteArray) : Bool := rightT k m && rightV k' n (bs s) && (k' == k) && (decide (k < 3) || decide ((s.size : Int) ≤ m))
theorem rightV_num {k n : Int} {l : List UInt8} (h : rightV k n l = true) (hk : k = 1 ∨ k = 2) : l = [] := by
  unfold rightV at h
  rcases hk with rfl | rfl <;> simp at h
  · exact h.2
  · exact h
theorem rfitT_eq (k m k' n : Int) (s : ByteArray) : rfitT k m k' n s = fitT k m k' n s := by
  apply bool_eq
  unfold rfitT fitT
  simp only [Bool.and_eq_true, Bool.or_eq_true, decide_eq_true_eq, beq_iff_eq]
  constructor
  · rintro ⟨⟨⟨h1, h2⟩, rfl⟩, h4⟩
    refine ⟨⟨⟨h1, h2⟩, rfl⟩, ?_⟩
    rcases h4 with h4 | h4
    · rw [rightT_iff] at h1
      have := rightV_num h2 (by omega)
      have hl := bs_length s
      rw [this] at hl
      simp at hl
      omega
    · exact h4
  · rintro ⟨h, h4⟩
    exact ⟨h, .inr h4⟩
set_option maxRecDepth 100000 in
set_option maxHeartbeats 1600000 in
theorem tfits_any (k m k' n : Int) (s : ByteArray) (w : World) (ht : UTab w) : Calls Tryd.prog 12 #[TT k m, VV k' n s] w fun e w' => e = .returned (.bool (fitT k m k' n s)) ∧ Below w.heap.size w w' := by
  have HT := Lib.hid ht; clear ht
  have HR := Lib.hid (fun w => tright_any k m w)
  have HV := Lib.hid (fun w ht => vright_any k' n s w ht)
  have Hv : Hid (fitT k m k' n s = (rightT k m && rightV k' n (bs s) && (k' == k) && decide ((s.size : Int) ≤ m))) := rfl
  generalize rightT k m = a at HR Hv
  generalize rightV k' n (bs s) = b at HV Hv
  generalize hc : (k' == k) = c at Hv
  generalize hd : decide ((s.size : Int) ≤ m) = d at Hv
  cases a
  · go_enter Tryd.func12, Tryd.ntmps12
    go_wp2_with fail
    refine (HR.out _).mono ?_
    rintro e w1 ⟨rfl, hb1⟩
    have HB := Lib.hid ((BxTV.new w _ _ _ _ _ _ _).step hb1)
    have HT1 := Lib.hid (((HT.out.alloc _).alloc _).below hb1 (Nat.le_refl _))
    clear hb1
    go_wp2_with fail
    go_ret
    exact ⟨by rw [Hv.out]; rfl, HB.out.2.2.2⟩
  cases b
  · go_enter Tryd.func12, Tryd.ntmps12
    go_wp2_with fail
    refine (HR.out _).mono ?_
    rintro e w1 ⟨rfl, hb1⟩
    have HB := Lib.hid ((BxTV.new w _ _ _ _ _ _ _).step hb1)
    have HT1 := Lib.hid (((HT.out.alloc _).alloc _).below hb1 (Nat.le_refl _))
    clear hb1
    obtain ⟨⟨c0, c1, _⟩, ⟨d0, d1, d2, _⟩, _⟩ := HB.out
    go_wp2_with fail
    refine (HV.out _ HT1.out).mono ?_
    rintro e w2 ⟨rfl, hb2⟩
    have HB2 := Lib.hid (HB.out.step hb2)
    clear hb2 c0 c1 d0 d1 d2
    obtain ⟨⟨c0, c1, _⟩, ⟨d0, d1, d2, _⟩, _⟩ := HB2.out
    go_wp2_with fail
    go_ret
    exact ⟨by rw [Hv.out]; rfl, HB2.out.2.2.2⟩
  cases c
  · go_enter Tryd.func12, Tryd.ntmps12
    go_wp2_with fail
    refine (HR.out _).mono ?_
    rintro e w1 ⟨rfl, hb1⟩
    have HB := Lib.hid ((BxTV.new w _ _ _ _ _ _ _).step hb1)
    have HT1 := Lib.hid (((HT.out.alloc _).alloc _).below hb1 (Nat.le_refl _))
    clear hb1
    obtain ⟨⟨c0, c1, _⟩, ⟨d0, d1, d2, _⟩, _⟩ := HB.out
    go_wp2_with fail
    refine (HV.out _ HT1.out).mono ?_
    rintro e w2 ⟨rfl, hb2⟩
    have HB2 := Lib.hid (HB.out.step hb2)
    clear hb2 c0 c1 d0 d1 d2
    obtain ⟨⟨c0, c1, _⟩, ⟨d0, d1, d2, _⟩, _⟩ := HB2.out
    go_wp2_with fail
    go_ret
    exact ⟨by rw [Hv.out]; rfl, HB2.out.2.2.2⟩
  go_enter Tryd.func12, Tryd.ntmps12
  go_wp2_with fail
  refine (HR.out _).mono ?_
  rintro e w1 ⟨rfl, hb1⟩
  have HB := Lib.hid ((BxTV.new w _ _ _ _ _ _ _).step hb1)
  have HT1 := Lib.hid (((HT.out.alloc _).alloc _).below hb1 (Nat.le_refl _))
  clear hb1
  obtain ⟨⟨c0, c1, _⟩, ⟨d0, d1, d2, _⟩, _⟩ := HB.out
  go_wp2_with fail
  refine (HV.out _ HT1.out).mono ?_
  rintro e w2 ⟨rfl, hb2⟩
  have HB2 := Lib.hid (HB.out.step hb2)
  clear hb2 c0 c1 d0 d1 d2
  obtain ⟨⟨c0, c1, _⟩, ⟨d0, d1, d2, _⟩, _⟩ := HB2.out
  go_wp2_with fail
  go_ret
  exact ⟨by rw [Hv.out]; rfl, HB2.out.2.2.2⟩
set_option maxRecDepth 100000 in
set_option maxHeartbeats 1600000 in
theorem trfits_any (k m k' n : Int) (s : ByteArray) (w : World) (h1 : -9223372036854775808 ≤ n) (h2 : n < 9223372036854775808) : Calls Tryd.prog 13 #[TT k m, VV k' n s] w fun e w' => e = .returned (.bool (fitT k m k' n s)) ∧ Below w.heap.size w w' := by
  rw [← rfitT_eq]
  have HR := Lib.hid (fun w => trright_any k m w)
  have HV := Lib.hid (fun w => vrright_any k' n s w h1 h2)
  clear h1 h2
  have Hv : Hid (rfitT k m k' n s = (rightT k m && rightV k' n (bs s) && (k' == k) && (decide (k < 3) || decide ((s.size : Int) ≤ m)))) := rfl
  generalize rightT k m = a at HR Hv
  generalize rightV k' n (bs s) = b at HV Hv
  generalize hc : (k' == k) = c at Hv
  generalize hd : decide ((s.size : Int) ≤ m) = d at Hv
  generalize hf : decide (k < 3) = f at Hv
  cases a
  · go_enter Tryd.func13, Tryd.ntmps13
    go_wp2_with fail
    refine (HR.out _).mono ?_
    rintro e w1 ⟨rfl, hb1⟩
    have HB := Lib.hid ((BxTV.new w _ _ _ _ _ _ _).step hb1)
    clear hb1
    go_wp2_with fail
    go_ret
    exact ⟨by rw [Hv.out]; rfl, HB.out.2.2.2⟩
  cases b
  · go_enter Tryd.func13, Tryd.ntmps13
    go_wp2_with fail
    refine (HR.out _).mono ?_
    rintro e w1 ⟨rfl, hb1⟩
    have HB := Lib.hid ((BxTV.new w _ _ _ _ _ _ _).step hb1)
    clear hb1
    obtain ⟨⟨c0, c1, _⟩, ⟨d0, d1, d2, _⟩, _⟩ := HB.out
    go_wp2_with fail
    refine (HV.out _).mono ?_
    rintro e w2 ⟨rfl, hb2⟩
    have HB2 := Lib.hid (HB.out.step hb2)
    clear hb2 c0 c1 d0 d1 d2
    obtain ⟨⟨c0, c1, _⟩, ⟨d0, d1, d2, _⟩, _⟩ := HB2.out
    go_wp2_with fail
    go_ret
    exact ⟨by rw [Hv.out]; rfl, HB2.out.2.2.2⟩
  cases c
  · go_enter Tryd.func13, Tryd.ntmps13
    go_wp2_with fail
    refine (HR.out _).mono ?_
    rintro e w1 ⟨rfl, hb1⟩
    have HB := Lib.hid ((BxTV.new w _ _ _ _ _ _ _).step hb1)
    clear hb1
    obtain ⟨⟨c0, c1, _⟩, ⟨d0, d1, d2, _⟩, _⟩ := HB.out
    go_wp2_with fail
    refine (HV.out _).mono ?_
    rintro e w2 ⟨rfl, hb2⟩
    have HB2 := Lib.hid (HB.out.step hb2)
    clear hb2 c0 c1 d0 d1 d2
    obtain ⟨⟨c0, c1, _⟩, ⟨d0, d1, d2, _⟩, _⟩ := HB2.out
    go_wp2_with fail
    go_ret
    exact ⟨by rw [Hv.out]; rfl, HB2.out.2.2.2⟩
  cases f
  · go_enter Tryd.func13, Tryd.ntmps13
    go_wp2_with fail
    refine (HR.out _).mono ?_
    rintro e w1 ⟨rfl, hb1⟩
    have HB := Lib.hid ((BxTV.new w _ _ _ _ _ _ _).step hb1)
    clear hb1
    obtain ⟨⟨c0, c1, _⟩, ⟨d0, d1, d2, _⟩, _⟩ := HB.out
    go_wp2_with fail
    refine (HV.out _).mono ?_
    rintro e w2 ⟨rfl, hb2⟩
    have HB2 := Lib.hid (HB.out.step hb2)
    clear hb2 c0 c1 d0 d1 d2
    obtain ⟨⟨c0, c1, _⟩, ⟨d0, d1, d2, _⟩, _⟩ := HB2.out
    go_wp2_with fail
    go_ret
    exact ⟨by rw [Hv.out]; rfl, HB2.out.2.2.2⟩
  · go_enter Tryd.func13, Tryd.ntmps13
    go_wp2_with fail
    refine (HR.out _).mono ?_
    rintro e w1 ⟨rfl, hb1⟩
    have HB := Lib.hid ((BxTV.new w _ _ _ _ _ _ _).step hb1)
    clear hb1
    obtain ⟨⟨c0, c1, _⟩, ⟨d0, d1, d2, _⟩, _⟩ := HB.out
    go_wp2_with fail
    refine (HV.out _).mono ?_
    rintro e w2 ⟨rfl, hb2⟩
    have HB2 := Lib.hid (HB.out.step hb2)
    clear hb2 c0 c1 d0 d1 d2
    obtain ⟨⟨c0, c1, _⟩, ⟨d0, d1, d2, _⟩, _⟩ := HB2.out
    go_wp2_with fail
    go_ret
    exact ⟨by rw [Hv.out]; rfl, HB2.out.2.2.2⟩
end Go.Proofs.YtlfjkbghgfljaaaDoor
