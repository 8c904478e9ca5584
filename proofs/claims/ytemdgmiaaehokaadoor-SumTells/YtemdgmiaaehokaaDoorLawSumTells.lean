/-
  SumTells: for every string, every place and every four bytes the law returns true: two strings that differ within four bytes side by side alone have unlike checksums, and a sealed string of which such are turned is sealed no more. No condition but that the table reads as the program's text lays it (tied by the card).
-/
import Derived.Test.YtemdgmiaaehokaaDoorSumLivesC
import Derived.Test.YtemdgmiaaehokaaDoorSumTurnC
import Derived.Laws.IdiomArrays
import Derived.Test.YtemdgmiaaehokaaDoorTie
import Derived.Test.YtemdgmiaaehokaaDoorCards
import Derived.ProofKit
import Derived.OpenShut
import Derived.ShutString
import Derived.ChangeOld
import Derived.LaidMore
import Derived.SevenTiedAt
namespace Go.Proofs.YtemdgmiaaehokaaDoor.sumTells
open Go.ChangeShapes Go.WideShapes Go.ChangeAt Go.RowKit
open Go.ChangeMaps (open_string shut_string)

/-- a string, some of four bytes side by side turned -/
theorem turn_ex (z : ByteArray) (at' : Nat) (x0 x1 x2 x3 : UInt8) (h4 : 4 ≤ z.size) :
    ∃ (p m r : List UInt8) (t : ByteArray), bs z = p ++ (m ++ r) ∧ p.length = at' % (z.size - 3) ∧ m.length = 4 ∧ bs t = p ++ (List.zipWith (· ^^^ ·) m [x0, x1, x2, x3] ++ r) ∧ t.size = z.size := by
  obtain ⟨p, m, r, h1, h2, h3⟩ := parts_of (bs z) (at' % (z.size - 3)) (by rw [bs_length]; have := Nat.mod_lt at' (show 0 < z.size - 3 by omega); omega)
  refine ⟨p, m, r, ⟨(p ++ (List.zipWith (· ^^^ ·) m [x0, x1, x2, x3] ++ r)).toArray⟩, h1, h2, h3, rfl, ?_⟩
  rw [ba_size (p ++ (List.zipWith (· ^^^ ·) m [x0, x1, x2, x3] ++ r)), ← bs_length z, h1]
  simp [h3]
theorem Four.get {w : World} {B : Nat} {x0 x1 x2 x3 : UInt8} (h : Four w B [x0, x1, x2, x3]) :
    w.cell? ⟨B, 0, none⟩ = some (.int .u8 (x0.toNat : Int)) ∧ w.cell? ⟨B, 1, none⟩ = some (.int .u8 (x1.toNat : Int)) ∧ w.cell? ⟨B, 2, none⟩ = some (.int .u8 (x2.toNat : Int)) ∧ w.cell? ⟨B, 3, none⟩ = some (.int .u8 (x3.toNat : Int)) :=
  ⟨h 0 (by simp), h 1 (by simp), h 2 (by simp), h 3 (by simp)⟩
theorem Four.below {w w' : World} {B C : Nat} {x : List UInt8} (h : Four w B x) (hb : Below C w w') (hC : B < C) : Four w' B x := fun j hj => (hb.cell (p := ⟨B, j, none⟩) hC).trans (h j hj)
theorem cmp_false {a b : ByteArray} (h : a ≠ b) : (a.toList == b.toList) = false := by
  rw [ByteArray.toList_eq, ByteArray.toList_eq]
  exact beq_eq_false_iff_ne.2 fun e => h (bs_eq e)

theorem same_iff {z t : ByteArray} {p m m' r : List UInt8} (hz : bs z = p ++ (m ++ r)) (ht : bs t = p ++ (m' ++ r)) : t = z ↔ m' = m := by
  constructor
  · intro e
    subst e
    exact List.append_cancel_right (List.append_cancel_left (ht.symm.trans hz))
  · intro e
    subst e
    exact bs_eq (ht.trans hz.symm)
theorem cmp_dec (a b : ByteArray) : (a.toList == b.toList) = decide (a = b) := by
  by_cases h : a = b
  · subst h; simp
  · rw [cmp_false h]; simp [h]
theorem tells_seal {s z t o : ByteArray} {n : Nat} {p m m' r : List UInt8} (hzs : bs z = sealed (bs s)) (hz : bs z = p ++ (m ++ r)) (ht : bs t = p ++ (m' ++ r)) (hm : m.length = 4) (hm' : m'.length = 4) (ho : opn (bs t) = (bs o, n)) :
    ((n : Int) == 0) = decide (t = z) := by
  have h1 := seal_tells (bs s) p m m' r hm hm' (hzs.symm.trans hz)
  rw [← ht, ho, ← same_iff hz ht] at h1
  rw [Bool.eq_iff_iff]
  simp only [beq_iff_eq, decide_eq_true_eq]
  rw [← h1]
  exact Int.natCast_eq_zero
theorem tells_crc {s u : ByteArray} {p m m' r : List UInt8} (hz : bs s = p ++ (m ++ r)) (ht : bs u = p ++ (m' ++ r)) (hm : m.length = 4) (hm' : m'.length = 4) :
    (((crc (bs u) : Nat) : Int) == ((crc (bs s) : Nat) : Int)) = decide (u = s) := by
  have h1 := crc_tells p m m' r hm hm'
  rw [← ht, ← hz, ← same_iff hz ht] at h1
  rw [Bool.eq_iff_iff]
  simp only [beq_iff_eq, decide_eq_true_eq]
  rw [← h1]
  exact Int.natCast_inj

set_option maxRecDepth 100000 in
set_option maxHeartbeats 800000 in
theorem walk_t (s : ByteArray) (at' : Nat) (x0 x1 x2 x3 : UInt8) (w : World) (hs : s.size ≤ maxLen) (ha : at' < 65536) (ht : Tab w) :
    Calls Tryd.prog 7 #[.string s, .int .u16 at', .agg #[.int .u8 x0.toNat, .int .u8 x1.toNat, .int .u8 x2.toNat, .int .u8 x3.toNat]] w fun e w' => e = .returned (.bool true) ∧ Below w.heap.size w w' := by
  unfold maxLen at hs
  have HT := Lib.hid ht; clear ht
  have hf0 : Four (w.alloc (.cells #[.int .u8 x0.toNat, .int .u8 x1.toNat, .int .u8 x2.toNat, .int .u8 x3.toNat] 39)) w.heap.size [x0, x1, x2, x3] := fun j hj => by
    match j, hj with
    | 0, _ => simp
    | 1, _ => simp
    | 2, _ => simp
    | 3, _ => simp
  have hb0 : Below w.heap.size w (w.alloc (.cells #[.int .u8 x0.toNat, .int .u8 x1.toNat, .int .u8 x2.toNat, .int .u8 x3.toNat] 39)) := (Below.refl _ _).alloc (Nat.le_refl _) _
  have hs0 : w.heap.size < (w.alloc (.cells #[.int .u8 x0.toNat, .int .u8 x1.toNat, .int .u8 x2.toNat, .int .u8 x3.toNat] 39)).heap.size := by simp
  have Hf0 := Lib.hid hf0; clear hf0
  by_cases h : 300 < s.size
  · have hd : decide (300 < (s.size : Int)) = true := by simp; omega
    go_enter Tryd.func7, Tryd.ntmps7
    go_wp2_with (go_at_call 8; refine (lives2_any _ (HT.out.alloc _)).mono ?_; rintro e w1 ⟨rfl, hb1⟩)
    go_ret
    exact ⟨rfl, hb0.trans (hb1.mono (by omega))⟩
  have hd : decide (300 < (s.size : Int)) = false := by simp; omega
  obtain ⟨z, hz, hzs⟩ := sealed_ex s
  obtain ⟨p, m, r, t, hp, hpl, hm, htt, hts⟩ := turn_ex z at' x0 x1 x2 x3 (by omega)
  obtain ⟨o, n, ho⟩ := opn_ex t
  have hm' : (List.zipWith (· ^^^ ·) m [x0, x1, x2, x3]).length = 4 := by simp [hm]
  have hn0 := tells_seal hz hp htt hm hm' ho
  have hcmp := cmp_dec t z
  generalize decide (t = z) = bt at *
  clear hm'
  have Hz := Lib.hid hz; clear hz
  have Hp := Lib.hid hp; clear hp
  have Hpl := Lib.hid hpl; clear hpl
  have Hm := Lib.hid hm; clear hm
  have Htt := Lib.hid htt; clear htt
  have Ho := Lib.hid ho; clear ho
  go_enter Tryd.func7, Tryd.ntmps7
  go_wp2_with (go_at_call 8; refine (lives2_any _ (HT.out.alloc _)).mono ?_; rintro e w1 ⟨rfl, hb1⟩)
  have hs1 := hb1.size
  have HT1 := Lib.hid ((HT.out.alloc _).below hb1 (HT.out.alloc _).pos)
  have HF1 := Lib.hid (Four.below Hf0.out hb1 hs0)
  obtain ⟨c10, c11, c12, c13⟩ := Four.get HF1.out
  have hB1 : Below w.heap.size w w1 := hb0.trans (hb1.mono (by omega))
  have hlt1 : w.heap.size < w1.heap.size := by omega
  clear hb1 hs1 hb0 hs0 Hf0
  go_region_with (first
    | (go_at_call 14; refine (seal_as s z _ HT1.out.drew (by omega) Hz.out).mono ?_; rintro e w2 ⟨rfl, hb2⟩; have HF2 := Lib.hid (Four.below (w := w1.drew) HF1.out hb2 hlt1); obtain ⟨c20, c21, c22, c23⟩ := Four.get HF2.out)
    | (go_at_call 17; refine (turned_as z t at' x0 x1 x2 x3 p m r _ (by omega) (by omega) ha Hp.out Hpl.out Hm.out Htt.out).mono ?_; rintro e w3 ⟨rfl, hb3⟩))
  all_goals (
    have HT3 := Lib.hid ((HT1.out.drew.below hb2 HT1.out.pos).below hb3 (HT1.out.drew.below hb2 HT1.out.pos).pos)
    have hs2 : w1.heap.size ≤ w2.heap.size := hb2.size
    have HF3 := Lib.hid (Four.below HF2.out hb3 (by omega))
    have hB3 : Below w.heap.size w w3 := hB1.drew.trans ((hb2.mono (show w.heap.size ≤ w1.heap.size by omega)).trans (hb3.mono (by omega)))
    have hlt3 : w.heap.size < w3.heap.size := by have := hb3.size; omega
    obtain ⟨c30, c31, c32, c33⟩ := Four.get HF3.out
    clear hb2 hb3 hs2 c20 c21 c22 c23 c10 c11 c12 c13 HF2 HF1 HT1 hB1 hlt1
    go_wp2_with fail
    refine (open_as t o n _ HT3.out (by omega) Ho.out).mono ?_
    rintro e w4 ⟨rfl, hb4⟩
    have HT4 := Lib.hid (HT3.out.below hb4 HT3.out.pos)
    have HF4 := Lib.hid (Four.below HF3.out hb4 hlt3)
    have hB4 : Below w.heap.size w w4 := hB3.trans (hb4.mono (by omega))
    have hlt4 : w.heap.size < w4.heap.size := by have := hb4.size; omega
    clear hb4 c30 c31 c32 c33 HF3 HT3 hB3 hlt3
    go_wp2_with fail
    refine (seal_as s z _ HT4.out (by omega) Hz.out).mono ?_
    rintro e w5 ⟨rfl, hb5⟩
    have HT5 := Lib.hid (HT4.out.below hb5 HT4.out.pos)
    have HF5 := Lib.hid (Four.below HF4.out hb5 hlt4)
    have hB5 : Below w.heap.size w w5 := hB4.trans (hb5.mono (by omega))
    have hlt5 : w.heap.size < w5.heap.size := by have := hb5.size; omega
    clear hb5 HF4 HT4 hB4 hlt4
    obtain ⟨c50, c51, c52, c53⟩ := Four.get HF5.out
    by_cases h4s : s.size < 4
    · have hd4 : decide ((s.size : Int) < 4) = true := by simp; omega
      go_wp2_with fail
      go_ret
      exact ⟨rfl, hB5⟩
    · have hd4 : decide ((s.size : Int) < 4) = false := by simp; omega
      obtain ⟨p', q, r', u, hp', hpl', hq, huu, hus⟩ := turn_ex s at' x0 x1 x2 x3 (by omega)
      have hq' : (List.zipWith (· ^^^ ·) q [x0, x1, x2, x3]).length = 4 := by simp [hq]
      have hcr := tells_crc hp' huu hq hq'
      have hcmp2 := cmp_dec u s
      generalize decide (u = s) = bu at *
      clear hq'
      have Hp' := Lib.hid hp'; clear hp'
      have Hpl' := Lib.hid hpl'; clear hpl'
      have Hq := Lib.hid hq; clear hq
      have Huu := Lib.hid huu; clear huu
      go_wp2_with fail
      refine (turned_as s u at' x0 x1 x2 x3 p' q r' _ (by omega) (by omega) ha Hp'.out Hpl'.out Hq.out Huu.out).mono ?_
      rintro e w6 ⟨rfl, hb6⟩
      have HT6 := Lib.hid (HT5.out.below hb6 HT5.out.pos)
      have hB6 : Below w.heap.size w w6 := hB5.trans (hb6.mono (by omega))
      have hlt6 : w.heap.size < w6.heap.size := by have := hb6.size; omega
      clear hb6 HF5 HT5 hB5 hlt5 c50 c51 c52 c53
      go_wp2_with fail
      refine (of_new _ _ _ u HT6.out (by simp) (by omega)).mono ?_
      rintro e w7 ⟨rfl, rfl⟩
      go_wp2_with fail
      refine (of_new _ _ _ s (HT6.out.alloc _) (by simp) (by omega)).mono ?_
      rintro e w7 ⟨rfl, rfl⟩
      go_wp2_with fail
      go_ret
      exact ⟨by simp, (hB6.alloc (by omega) _).alloc (by simp; omega) _⟩)

theorem u8_of (x : Int) (h : (Lit.int .u8 x).wf = true) : ∃ c : UInt8, x = (c.toNat : Int) := by
  have := bounds_u8 h
  refine ⟨UInt8.ofNat x.toNat, ?_⟩
  rw [UInt8.toNat_ofNat']; omega

theorem walk (s : ByteArray) (a x0 x1 x2 x3 : Int) (w : World) (hs : s.size ≤ maxLen) (ha : (Lit.int .u16 a).wf = true) (h0 : (Lit.int .u8 x0).wf = true) (h1 : (Lit.int .u8 x1).wf = true) (h2 : (Lit.int .u8 x2).wf = true) (h3 : (Lit.int .u8 x3).wf = true)
    (hL : laidMetH Tryd.prog Rows.sumTellsRow.laid w) :
    Calls Tryd.prog 7 #[.string s, .int .u16 a, .agg #[.int .u8 x0, .int .u8 x1, .int .u8 x2, .int .u8 x3]] w fun e w' => e = .returned (.bool true) ∧ Below w.heap.size w w' := by
  have b0 := bounds_u16 ha
  obtain ⟨n, rfl⟩ := Int.eq_ofNat_of_zero_le b0.1
  obtain ⟨c0, rfl⟩ := u8_of x0 h0
  obtain ⟨c1, rfl⟩ := u8_of x1 h1
  obtain ⟨c2, rfl⟩ := u8_of x2 h2
  obtain ⟨c3, rfl⟩ := u8_of x3 h3
  exact walk_t s n c0 c1 c2 c3 w hs (by omega) (tab_of hL)

theorem cellsA : Tryd.prog.cellsOf 39 = 4 := by kernel_rfl
theorem cellsE : Tryd.prog.cellsOf 5 = 1 := by kernel_rfl
theorem list4 {α : Type} (l : List α) (h : (⟨l⟩ : Array α).size = 4) : ∃ a b c d, l = [a, b, c, d] := by
  match l, h with
  | [a, b, c, d], _ => exact ⟨a, b, c, d, rfl⟩
/-- the array, opened -/
theorem arr2 {H : Type} {enc : TypeId × Value → H} {W : World} {base : Nat} {v : Value} {d : DataW H} {p : List MemPlace} {sp : Nat → Bool}
    (hv : Value.okWide Tryd.prog W .any base 39 v) (h : DataW.Trod enc Tryd.prog W 0 sp true 39 v d p) :
    ∃ x0 x1 x2 x3 : Int, v = .agg #[.int .u8 x0, .int .u8 x1, .int .u8 x2, .int .u8 x3] ∧ d = .agg [.lit (.int .u8 x0), .lit (.int .u8 x1), .lit (.int .u8 x2), .lit (.int .u8 x3)] ∧ p = [] ∧
      (Lit.int .u8 x0).wf = true ∧ (Lit.int .u8 x1).wf = true ∧ (Lit.int .u8 x2).wf = true ∧ (Lit.int .u8 x3).wf = true := by
  obtain ⟨cs, rfl, hsz, _⟩ : ∃ cs, v = .agg cs ∧ cs.size = Tryd.prog.cellsOf 39 ∧ Row.okWide Tryd.prog W .any base 39 cs := by
    simpa [Value.okWide, Tryd.underlying39] using hv
  rw [cellsA] at hsz
  obtain ⟨l⟩ := cs
  obtain ⟨c0, c1, c2, c3, rfl⟩ := list4 l hsz
  obtain ⟨fuel, hf⟩ := h
  obtain ⟨y0, y1, y2, y3, m, hx, hy0, hy1, hy2, hy3⟩ := trod_array4 Tryd.underlying39 cellsE hf
  obtain ⟨x0, e0, rfl, w0⟩ := DataW.trod_int Tryd.underlying5 hy0
  obtain ⟨x1, e1, rfl, w1⟩ := DataW.trod_int Tryd.underlying5 hy1
  obtain ⟨x2, e2, rfl, w2⟩ := DataW.trod_int Tryd.underlying5 hy2
  obtain ⟨x3, e3, rfl, w3⟩ := DataW.trod_int Tryd.underlying5 hy3
  simp at e0 e1 e2 e3
  subst e0 e1 e2 e3
  simp only [Prod.mk.injEq] at hx
  exact ⟨x0, x1, x2, x3, rfl, hx.1, by simpa using hx.2, w0, w1, w2, w3⟩
theorem arr2shut {H : Type} {enc : TypeId × Value → H} (W : World) (sp : Nat → Bool) {x0 x1 x2 x3 : Int} (w0 : (Lit.int .u8 x0).wf = true) (w1 : (Lit.int .u8 x1).wf = true) (w2 : (Lit.int .u8 x2).wf = true) (w3 : (Lit.int .u8 x3).wf = true) :
    DataW.Trod enc Tryd.prog W 0 sp true 39 (.agg #[.int .u8 x0, .int .u8 x1, .int .u8 x2, .int .u8 x3]) (.agg [.lit (.int .u8 x0), .lit (.int .u8 x1), .lit (.int .u8 x2), .lit (.int .u8 x3)]) [] :=
  ⟨2, by simp [DataW.trod, Value.cells, Tryd.underlying39, Tryd.underlying5, cellsA, cellsE, w0, w1, w2, w3, show List.range 4 = [0, 1, 2, 3] from rfl]⟩

theorem own : ownKnob Tryd.prog.godebug = none := by kernel_rfl
theorem laidOut : laidOutB Tryd.prog = true := by kernel_rfl
theorem door_met (os : Os) (args : Array Value) : laidMetH Tryd.prog Rows.sumTellsRow.laid ((World.doorLaid Tryd.prog 14 os).forCall (fun _ _ => 0) ⟨#[], args, []⟩).memory :=
  laidMetH_of_parts3 (fuel := 8) (laidMet_of_run' 8 (by kernel_rfl) (by kernel_rfl)) (by kernel_rfl) (by kernel_rfl)
set_option maxRecDepth 100000 in
theorem lifted (os : Os) (started : os.Started) (H : Type) (enc : TypeId × Value → H) :
    ReturnsInHanded {} Tryd.checked os 7 .any (fun w args => (Rows.sumTellsSpec.pre enc Tryd.prog Tryd.f7 [] false w args ∧ laidMetH Tryd.prog Rows.sumTellsRow.laid w) ∧ sizedMet enc Tryd.prog Tryd.f7 (OpenSpec.ofChange Rows.sumTellsSpec) false w args)
      (Rows.sumTellsSpec.post enc Tryd.prog Tryd.f7 false true false false) := by
  refine returnsInHanded_of_change_and (C := Tryd.checked) (X := fun w _ => laidMetH Tryd.prog Rows.sumTellsRow.laid w) (fun _ _ _ hh h => h.of_heap hh) own started (by kernel_rfl) Tryd.func7
    (ChangeSpec.witness_shaped (enc := enc) (C := Tryd.checked) (os := os) (X := fun w _ => laidMetH Tryd.prog Rows.sumTellsRow.laid w) false (World.doorLaid Tryd.prog 14 os) #[.string ByteArray.empty, .int .u16 0, .agg #[.int .u8 0, .int .u8 0, .int .u8 0, .int .u8 0]] 8 rfl (World.shaped_of_RefB (by kernel_rfl) (by kernel_rfl)) (by kernel_rfl) (by kernel_rfl) (by kernel_rfl) (door_met os _)) ?_
  intro W base args ds gs before hval0 hW hcnd _ hL _
  have hval : ∀ (j : Nat) t v, Tryd.f7.params[j]? = some t → args[j]? = some v → Value.okWide Tryd.prog W .any base t v := hval0
  have hW' := hW
  obtain ⟨p, q, hA0, hV, rfl, hfz, hnd⟩ := hW
  have hA : DataW.TrodAll enc Tryd.prog W 0 (fun _ => true) true Tryd.f7.params.toList args.toList ds p := hA0
  rw [Tryd.params7] at hA hval
  obtain ⟨v0, vs0, d0, ds0, p0, q0, hargs, rfl, rfl, h0, r0⟩ := trodAll_cons hA
  obtain ⟨v1, vs1, d1, ds1, p1, q1, rfl, rfl, rfl, h1, r1⟩ := trodAll_cons r0
  obtain ⟨v2, vs2, d2, ds2, p2, q2, rfl, rfl, rfl, h2, r2⟩ := trodAll_cons r1
  obtain ⟨rfl, rfl, rfl⟩ := trodAll_nil r2
  obtain rfl : args = #[v0, v1, v2] := by cases args; simp_all
  obtain ⟨rfl, rfl⟩ := trodVars_none hV
  obtain ⟨a0, rfl, rfl, rfl, w0⟩ := open_string Tryd.underlying9 (hval 0 9 v0 rfl rfl) h0
  obtain ⟨a1, rfl, rfl, rfl, w1⟩ := open_int Tryd.underlying38 (hval 1 38 v1 rfl rfl) h1
  obtain ⟨a2_0, a2_1, a2_2, a2_3, rfl, rfl, rfl, w2_0, w2_1, w2_2, w2_3⟩ := arr2 (hval 2 39 v2 rfl rfl) h2
  clear hA0 hval0
  refine (walk a0 a1 a2_0 a2_1 a2_2 a2_3 W w0 w1 w2_0 w2_1 w2_2 w2_3 hL).mono fun e W' ⟨he, bel⟩ => ?_
  subst he
  exact ⟨_, rfl, _, _, _, [], _, [], hW', trodAll_mk1 (shut_bool Tryd.underlying4 _), (trodAll_cons_mk (shut_string Tryd.underlying9 w0) (trodAll_cons_mk (shut_int Tryd.underlying38 w1) (trodAll_cons_mk (arr2shut _ _ w2_0 w2_1 w2_2 w2_3) trodAll_mk0))), rfl, bel.frame _, fun h => by cases h⟩

theorem over : Rows.SumTellsSaid :=
  OpenClaim.holds_of_wide 7 Tryd.f7 rfl rfl rfl rfl rfl rfl rfl ⟨rfl, rfl, rfl, rfl, rfl⟩ rfl rfl rfl rfl rfl (by kernel_rfl) Tryd.func7 (by kernel_rfl)
    (of_decide_eq_true (by kernel_rfl)) (by unfold Func.isWrapper; first | (rw [if_pos (by decide +kernel)]; kernel_rfl) | (rw [if_neg (by decide +kernel)]; exact ⟨rfl, rfl⟩))
    (fun os started H enc _ => lifted os started H enc)

/-- the given statement: the card -/
theorem proved : Rows.SumTellsCardSaid :=
  Claim7.holds_tied_plain_at .later [] [.data] true (true, "7f5d82826fd25f180c9631bd5d0694f1548d33ac5d1ff6d5e1a73ffd6e78c1f2") false
    over (fun _ h => by cases h) (by kernel_rfl) (fun _ h => by cases h) sumTells_row_tie rfl ⟨rfl, rfl⟩ (by kernel_rfl) rfl
    (fun f fn hf hfn => by
      obtain rfl : f = 7 := Option.some.inj ((show Tryd.prog.funcNamed "haulage/haulagelaw02.SumTells" = some 7 by kernel_rfl).symm.trans hf) |>.symm
      obtain rfl : fn = Tryd.f7 := (Option.some.inj (Tryd.func7.symm.trans hfn)).symm
      exact ⟨by kernel_rfl, fun j t ht => by
        rw [Tryd.params7] at ht
        have hm : t ∈ [9, 38, 39] := by simpa using Array.mem_of_getElem? ht
        have hall : ([9, 38, 39].all fun u => !Tryd.prog.wantsStandIn u) = true := by kernel_rfl
        exact (show Tryd.prog.wantsStandIn t = false by simpa using List.all_eq_true.1 hall t hm)⟩)
    (by kernel_rfl)
#print axioms proved
end Go.Proofs.YtemdgmiaaehokaaDoor.sumTells
