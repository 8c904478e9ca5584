/-
  Texts that the proof needs, one behind the other: DtxRPrC.
-/
import Derived.Laws.IdiomStrings
import Derived.Test.YtebldfnocpcddaaGreatDoorPart17
import Derived.Test.YtebldfnocpcddaaGreatDoorPart39

/-
  The document's own text of a column (layer 10).
-/
namespace Go.Proofs.YtebldfnocpcddaaGreatDoor
open Go.RowKit

/-- strings one behind the other, by a letter -/
theorem add_ex (a b : ByteArray) (n m : Nat) (ha : a.size ≤ n) (hb : b.size ≤ m) (h : n + m ≤ 1000000000) :
    ∃ x : ByteArray, bs x = bs a ++ bs b ∧ x.size ≤ n + m ∧ ∀ w, (Op.stringOp .add a b).run Tryz.prog w = .ok (.string x) w := by
  refine ⟨a ++ b, bs_append a b, by rw [ByteArray.size_append]; omega, fun w => ?_⟩
  exact run_string_add_sum (P := Tryz.prog) (w := w) a b (by omega)
theorem bs_lit (l : List UInt8) : bs ⟨l.toArray⟩ = l := bs_mk l
theorem colOk_iff {c : Cb} : colOk c = true ↔ rightN (bs c.nm) = true ∧ rightT c.tk c.tm = true ∧ rightV c.dk c.dn (bs c.ds) = true := by
  unfold colOk
  simp only [Bool.and_eq_true]
theorem rightV_ds {k n : Int} {s : ByteArray} (h : rightV k n (bs s) = true) : s.size ≤ 120 := by
  rw [← bs_length]
  unfold rightV at h
  split at h
  · simp only [Bool.and_eq_true, decide_eq_true_eq] at h; rw [h.2]; simp
  split at h
  · simp only [Bool.and_eq_true, decide_eq_true_eq] at h; rw [h.2]; simp
  split at h
  · simp only [decide_eq_true_eq] at h; rw [h]; simp
  split at h
  · simp only [Bool.and_eq_true, decide_eq_true_eq] at h; exact h.1.2
  split at h
  · simp only [Bool.and_eq_true, decide_eq_true_eq] at h; exact h.2
  · cases h
theorem colX_len {c : Cb} (hc : colOk c = true) (h1 : -9223372036854775808 ≤ c.dn) (h2 : c.dn < 9223372036854775808) : (colX [32] c []).length ≤ 1100 := by
  obtain ⟨a, b, d⟩ := colOk_iff.1 hc
  have e1 := (right_len a).2
  have e2 := prT_len b
  have e3 := prW_len2 d h1 h2
  unfold colX
  cases c.nl <;> by_cases h : c.dk = 0 <;> simp [h, nullT, defT] <;> omega
set_option maxRecDepth 100000 in
set_option maxHeartbeats 1600000 in
theorem rcol10_any (i : Int) (nm : ByteArray) (tk tm : Int) (nl : Bool) (dk dn : Int) (ds x : ByteArray) (w : World) (hc : colOk ⟨i, nm, tk, tm, nl, dk, dn, ds⟩ = true) (h1 : -9223372036854775808 ≤ dn) (h2 : dn < 9223372036854775808) (hx : bs x = colX [32] ⟨i, nm, tk, tm, nl, dk, dn, ds⟩ []) :
    Calls Tryz.prog 27 #[.string nm, TT tk tm, .bool nl, VV dk dn ds] w fun e w' => e = .returned (.string x) ∧ Below w.heap.size w w' := by
  obtain ⟨hn, ht, hv⟩ := colOk_iff.1 hc
  have hn : rightN (bs nm) = true := hn
  have ht : rightT tk tm = true := ht
  have hv : rightV dk dn (bs ds) = true := hv
  have hnm : nm.size ≤ 16 := by rw [← bs_length]; exact (right_len hn).2
  have HT := Lib.hid (fun w => trprint_yes tk tm w ht)
  have HV := Lib.hid (fun w => vrprint_any dk dn ds w h1 h2 (by have := rightV_ds hv; omega))
  obtain ⟨T, hT⟩ : ∃ T : ByteArray, ⟨(prT tk tm).toArray⟩ = T := ⟨_, rfl⟩
  obtain ⟨V, hV⟩ : ∃ V : ByteArray, ⟨(prW dk dn (bs ds)).toArray⟩ = V := ⟨_, rfl⟩
  have hTs : T.size ≤ 30 := by rw [← hT, ba_size]; exact prT_len ht
  have hVs : V.size ≤ 900 := by rw [← hV, ba_size]; exact prW_len2 hv h1 h2
  have bT : bs T = prT tk tm := by rw [← hT]; exact bs_mk _
  have bV : bs V = prW dk dn (bs ds) := by rw [← hV]; exact bs_mk _
  rw [hT] at HT
  rw [hV] at HV
  obtain ⟨x1, e1, s1, q1⟩ := add_ex nm ⟨#[32]⟩ 16 1 hnm (by decide) (by omega)
  obtain ⟨x2, e2, s2, q2⟩ := add_ex x1 T 17 30 s1 hTs (by omega)
  obtain ⟨w0, hw0⟩ : ∃ w0, (w.alloc (.cells #[.int .i64 tk, .int .i64 tm] 23)).alloc (.cells #[.int .i64 dk, .int .i64 dn, .string ds] 25) = w0 := ⟨_, rfl⟩
  have hb0 : Below w.heap.size w w0 := by rw [← hw0]; exact ((Below.refl _ _).alloc (Nat.le_refl _) _).alloc (by simp) _
  have HK : Hid (Bk 23 w0 w.heap.size [.int .i64 tk, .int .i64 tm]) := by rw [← hw0]; exact (Bk.new w [.int .i64 tk, .int .i64 tm] 23).below ((Below.refl _ _).alloc (Nat.le_refl _) _)
  have HM : Hid (Bk 25 w0 (w.heap.size + 1) [.int .i64 dk, .int .i64 dn, .string ds]) := by
    have := Bk.new (w.alloc (.cells #[.int .i64 tk, .int .i64 tm] 23)) [.int .i64 dk, .int .i64 dn, .string ds] 25
    rw [hw0] at this
    show Bk _ _ _ _
    simpa using this
  have Hw0 := Lib.hid hw0; have Hb0 := Lib.hid hb0; clear hw0 hb0
  have E2 : Hid (bs x2 = bs nm ++ ([32] ++ prT tk tm)) := by
    show _ = _
    rw [e2, e1, bT, List.append_assoc]; rfl
  have fin : Hid (∀ y : ByteArray, bs y = colX [32] ⟨i, nm, tk, tm, nl, dk, dn, ds⟩ [] → y = x) := fun y hy => bs_eq (by rw [hy, hx])
  have BV := Lib.hid bV
  clear hx hT hV bT bV e1 e2 hc hn ht
  have a0 := HK.out.at 0 _ rfl; have a1 := HK.out.at 1 _ rfl
  have k1 : ∃ y : ByteArray, (nl = true → bs y = bs x2 ++ [32, 110, 117, 108, 108] ∧ ∀ w, (Op.stringOp .add x2 ⟨#[32, 110, 117, 108, 108]⟩).run Tryz.prog w = .ok (.string y) w) ∧ (nl = false → y = x2) ∧ y.size ≤ 52 := by
    cases nl
    · exact ⟨x2, fun h => absurd h (by decide), fun _ => rfl, by omega⟩
    · obtain ⟨y, e, s, q⟩ := add_ex x2 ⟨#[32, 110, 117, 108, 108]⟩ 47 5 s2 (by decide) (by omega)
      exact ⟨y, fun _ => ⟨e, q⟩, fun h => absurd h (by decide), s⟩
  obtain ⟨y, hy1, hy2, hys⟩ := k1
  obtain ⟨z1, f1, g1, r1⟩ := add_ex y ⟨#[32, 100, 101, 102, 97, 117, 108, 116, 32]⟩ 52 9 hys (by decide) (by omega)
  obtain ⟨z2, f2, g2, r2⟩ := add_ex z1 V 61 900 g1 hVs (by omega)
  have HY : Hid (bs y = bs nm ++ ([32] ++ (prT tk tm ++ (if nl = true then [32] ++ nullT else [])))) := by
    show _ = _
    cases nl
    · rw [hy2 rfl, E2.out]; simp
    · rw [(hy1 rfl).1, E2.out]; simp [nullT]
  have HZ : Hid (bs z2 = bs y ++ ([32] ++ (defT ++ ([32] ++ prW dk dn (bs ds))))) := by
    show _ = _
    rw [f2, f1, BV.out, List.append_assoc]; rfl
  clear f1 f2 g1 g2 s1 s2 hys hnm hTs hVs
  by_cases hk : dk = 0
  · have hk1 : (dk != 0) = false := by simp [hk]
    have HF : Hid (y = x) := fin.out y (by rw [HY.out]; unfold colX; simp [hk])
    clear hk r1 r2
    cases nl
    · obtain rfl := hy2 rfl
      clear hy1 hy2
      go_enter Tryz.func27, Tryz.ntmps27
      go_wp2_with fail
      try rw [Hw0.out]
      try go_wp2_with fail
      refine (HT.out _).mono ?_
      rintro e w1 ⟨rfl, hb1⟩
      have Hb1 := Lib.hid (bthen Hb0.out hb1)
      have m0 := (HM.out.below hb1).at 0 _ rfl
      clear hb1 a0 a1
      go_wp2_with fail
      go_ret
      exact ⟨by rw [← HF.out]; rfl, Hb1.out⟩
    · obtain ⟨_, q3⟩ := hy1 rfl
      clear hy1 hy2
      go_enter Tryz.func27, Tryz.ntmps27
      go_wp2_with fail
      try rw [Hw0.out]
      try go_wp2_with fail
      refine (HT.out _).mono ?_
      rintro e w1 ⟨rfl, hb1⟩
      have Hb1 := Lib.hid (bthen Hb0.out hb1)
      have m0 := (HM.out.below hb1).at 0 _ rfl
      clear hb1 a0 a1
      go_wp2_with fail
      go_ret
      exact ⟨by rw [← HF.out]; rfl, Hb1.out⟩
  · have hk1 : (dk != 0) = true := by simpa using hk
    have HF : Hid (z2 = x) := fin.out z2 (by rw [HZ.out, HY.out]; unfold colX; simp [hk])
    clear hk
    cases nl
    · obtain rfl := hy2 rfl
      clear hy1 hy2
      go_enter Tryz.func27, Tryz.ntmps27
      go_wp2_with fail
      try rw [Hw0.out]
      try go_wp2_with fail
      refine (HT.out _).mono ?_
      rintro e w1 ⟨rfl, hb1⟩
      have Hb1 := Lib.hid (bthen Hb0.out hb1)
      have m0 := (HM.out.below hb1).at 0 _ rfl; have m1 := (HM.out.below hb1).at 1 _ rfl; have m2 := (HM.out.below hb1).at 2 _ rfl
      clear hb1 a0 a1
      go_wp2_with fail
      refine (HV.out _).mono ?_
      rintro e w2 ⟨rfl, hb2⟩
      have Hb2 := Lib.hid (bthen Hb1.out hb2)
      clear hb2 m0 m1 m2
      go_wp2_with fail
      go_ret
      exact ⟨by rw [← HF.out]; rfl, Hb2.out⟩
    · obtain ⟨_, q3⟩ := hy1 rfl
      clear hy1 hy2
      go_enter Tryz.func27, Tryz.ntmps27
      go_wp2_with fail
      try rw [Hw0.out]
      try go_wp2_with fail
      refine (HT.out _).mono ?_
      rintro e w1 ⟨rfl, hb1⟩
      have Hb1 := Lib.hid (bthen Hb0.out hb1)
      have m0 := (HM.out.below hb1).at 0 _ rfl; have m1 := (HM.out.below hb1).at 1 _ rfl; have m2 := (HM.out.below hb1).at 2 _ rfl
      clear hb1 a0 a1
      go_wp2_with fail
      refine (HV.out _).mono ?_
      rintro e w2 ⟨rfl, hb2⟩
      have Hb2 := Lib.hid (bthen Hb1.out hb2)
      clear hb2 m0 m1 m2
      go_wp2_with fail
      go_ret
      exact ⟨by rw [← HF.out]; rfl, Hb2.out⟩
end Go.Proofs.YtebldfnocpcddaaGreatDoor
