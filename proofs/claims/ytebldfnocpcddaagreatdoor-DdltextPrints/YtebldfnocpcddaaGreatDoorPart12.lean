/-
  Texts that the proof needs, one behind the other: TypCastC, TypWidenMath, TypLivesC, TypTextC, TypReadC, TypPrintC.
-/
import Derived.Test.YtebldfnocpcddaaGreatDoorPart5
import Derived.Test.YtebldfnocpcddaaGreatDoorPart6
import Derived.Test.YtebldfnocpcddaaGreatDoorPart10
import Derived.Test.YtebldfnocpcddaaGreatDoorPart11
import Derived.Test.YtebldfnocpcddaaGreatDoorPart4
import Derived.Test.YtebldfnocpcddaaGreatDoorPart9

/-
  Contracts of package typ's Cast and of the document's own.
-/
namespace Go.Proofs.YtebldfnocpcddaaGreatDoor
open Go.RowKit

/-- a value and a type in their boxes, and the result's block -/
def BxC (w w1 : World) (a b c x y p q r : Value) : Prop := Blk3 w1 w.heap.size a b c ∧ Blk2 w1 (w.heap.size + 1) x y ∧ Blk3 w1 (w.heap.size + 2) p q r ∧ w.heap.size + 2 < w1.heap.size ∧ Below w.heap.size w w1
theorem BxC.new (w : World) (a b c x y p q r : Value) (t t2 t3 : TypeId) : BxC w (((w.alloc (.cells #[a, b, c] t)).alloc (.cells #[x, y] t2)).alloc (.cells #[p, q, r] t3)) a b c x y p q r := by
  have b1 : Below w.heap.size w (w.alloc (.cells #[a, b, c] t)) := (Below.refl _ _).alloc (Nat.le_refl _) _
  have b2 : Below w.heap.size w ((w.alloc (.cells #[a, b, c] t)).alloc (.cells #[x, y] t2)) := b1.alloc (by simp) _
  have b3 : Below w.heap.size w (((w.alloc (.cells #[a, b, c] t)).alloc (.cells #[x, y] t2)).alloc (.cells #[p, q, r] t3)) := b2.alloc (by simp; omega) _
  refine ⟨((Blk3.new w a b c t).below ((Below.refl _ _).alloc (Nat.le_refl _) _) (by simp)).below ((Below.refl _ _).alloc (Nat.le_refl _) _) (by simp; omega), (Blk2.new _ _ x y t2 (by simp)).alloc (by simp) _, Blk3.new' _ _ p q r t3 (by simp), by simp, b3⟩
theorem BxC.step {w w1 w2 : World} {a b c x y p q r : Value} (h : BxC w w1 a b c x y p q r) (hb : Below w1.heap.size w1 w2) : BxC w w2 a b c x y p q r := by
  obtain ⟨h1, h2, h3, h4, h5⟩ := h
  have := hb.size
  exact ⟨h1.below hb (by omega), h2.below hb (by omega), h3.below hb h4, by omega, h5.trans (hb.mono (by omega))⟩

/-- the string that a value becomes -/
def conS (k n : Int) (s : ByteArray) : ByteArray := bif numK k then ⟨(dz n).toArray⟩ else s
/-- what Cast returns -/
def cR (v : Value) (e : Int) : Value := .tuple #[v, .int .i64 e]
def castR (k n : Int) (s : ByteArray) (tk tm : Int) : Value :=
  bif rightV k n (bs s) then bif rightT tk tm then bif k == 0 then cR (VV 0 0 ⟨#[]⟩) 0 else bif decide (k ≤ tk) then bif numK tk then cR (VV tk n ⟨#[]⟩) 0 else
    bif decide (tm < ((conS k n s).size : Int)) then cR (VV 0 0 ⟨#[]⟩) 10 else cR (VV tk 0 (conS k n s)) 0
  else cR (VV 0 0 ⟨#[]⟩) 9 else cR (VV 0 0 ⟨#[]⟩) 2 else cR (VV 0 0 ⟨#[]⟩) 2
def rcastR (k n : Int) (s : ByteArray) (tk tm : Int) : Value :=
  bif rightV k n (bs s) then bif rightT tk tm then bif k == 0 then cR (VV k n s) 0 else bif decide (tk < k) then cR (VV 0 0 ⟨#[]⟩) 9 else bif decide (tk < 3) then cR (VV tk n ⟨#[]⟩) 0 else
    bif decide (k < 3) then bif decide (tm < ((⟨(dz n).toArray⟩ : ByteArray).size : Int)) then cR (VV 0 0 ⟨#[]⟩) 10 else cR (VV tk 0 ⟨(dz n).toArray⟩) 0
    else bif decide (tm < (s.size : Int)) then cR (VV 0 0 ⟨#[]⟩) 10 else cR (VV tk 0 s) 0
  else cR (VV 0 0 ⟨#[]⟩) 2 else cR (VV 0 0 ⟨#[]⟩) 2
theorem rightV_kind {k n : Int} {l : List UInt8} (h : rightV k n l = true) : k = 0 ∨ k = 1 ∨ k = 2 ∨ k = 3 ∨ k = 4 := by
  rcases rightV_cases k n l with h' | h' | h' | h' | h' | h'
  · exact .inl h'.1
  · exact .inr (.inl h'.1)
  · exact .inr (.inr (.inl h'.1))
  · exact .inr (.inr (.inr (.inl h'.1)))
  · exact .inr (.inr (.inr (.inr h'.1)))
  · rw [h'.2.2.2.2.2] at h; cases h
theorem rightV_null {n : Int} {s : ByteArray} (h : rightV 0 n (bs s) = true) : n = 0 ∧ s = ⟨#[]⟩ := by
  unfold rightV at h
  simp at h
  refine ⟨h.1, is_empty s ?_⟩
  rw [← bs_length, h.2]; rfl
theorem rcastR_eq (k n : Int) (s : ByteArray) (tk tm : Int) : rcastR k n s tk tm = castR k n s tk tm := by
  unfold rcastR castR
  cases ha : rightV k n (bs s)
  · rfl
  cases hb : rightT tk tm
  · rfl
  have hk := rightV_kind ha
  have hb' := (rightT_iff tk tm).1 hb
  simp only [cond_true]
  by_cases h0 : k = 0
  · subst h0
    obtain ⟨rfl, rfl⟩ := rightV_null ha
    rfl
  · have e0 : (k == 0) = false := by simpa using h0
    rw [e0]
    simp only [cond_false]
    by_cases h1 : tk < k
    · have d1 : decide (tk < k) = true := by simpa using h1
      have d2 : decide (k ≤ tk) = false := by simp; omega
      rw [d1, d2]; rfl
    · have d1 : decide (tk < k) = false := by simp; omega
      have d2 : decide (k ≤ tk) = true := by simp; omega
      rw [d1, d2]
      simp only [cond_false, cond_true]
      have d3 : decide (tk < 3) = numK tk := by
        apply bool_eq
        rw [numK_iff, decide_eq_true_eq]
        omega
      rw [d3]
      cases numK tk
      · simp only [cond_false]
        unfold conS
        have d4 : decide (k < 3) = numK k := by
          apply bool_eq
          rw [numK_iff, decide_eq_true_eq]
          omega
        rw [d4]
        cases numK k <;> rfl
      · rfl
end Go.Proofs.YtebldfnocpcddaaGreatDoor

/-
  The mathematics of widening: what fits a type is cast to each that is as wide.
-/
namespace Go.Proofs.YtebldfnocpcddaaGreatDoor

theorem enc_asc (c : UInt8) (h : c.toNat < 128) : enc c.toNat = [c] := by
  unfold enc
  simp [h, by8]
theorem asc_text : ∀ (l : List UInt8), (∀ c ∈ l, c.toNat < 128) → text (l.map UInt8.toNat) = l
  | [], _ => rfl
  | a :: r, h => by
    have := asc_text r (fun c hc => h c (by simp [hc]))
    unfold text at this ⊢
    rw [List.map_cons, List.flatMap_cons, enc_asc a (h a (by simp)), this]; rfl
theorem asc_sg (l : List UInt8) (h : ∀ c ∈ l, c.toNat < 128) : (sg l).isSome = true := by
  have := sg_text (l.map UInt8.toNat) (fun n hn => by
    obtain ⟨c, hc, rfl⟩ := List.mem_map.1 hn
    have := h c hc
    rw [isP_iff]; omega) []
  rw [List.append_nil, asc_text l h, sg_nil] at this
  rw [this]; rfl
theorem dz_asc (z : Int) : ∀ c ∈ dz z, c.toNat < 128 := by
  have hd : ∀ c ∈ dn z.natAbs, c.toNat < 128 := fun c hc => by
    have := (isD_iff c).1 (dn_all _ c hc)
    omega
  unfold dz
  split
  · intro c hc
    rcases List.mem_cons.1 hc with rfl | hc
    · decide
    · exact hd c hc
  · exact hd
theorem dz_len32 (z : Int) (h : fitsB z 32 = true) : (dz z).length ≤ 11 := by
  rw [fitsB_eq z 32 (by omega)] at h
  simp at h
  have h3 := dn_len z.natAbs 10 (by omega) (by omega)
  unfold dz; split <;> simp <;> omega

def cN (bk n : Int) : Int := bif numK bk then n else 0
def cS (bk k n : Int) (s : ByteArray) : ByteArray := bif numK bk then ⟨#[]⟩ else conS k n s
theorem fit_iff (k m k' n : Int) (s : ByteArray) : fitT k m k' n s = true ↔ rightT k m = true ∧ rightV k' n (bs s) = true ∧ k' = k ∧ (s.size : Int) ≤ m := by
  unfold fitT
  simp only [Bool.and_eq_true, decide_eq_true_eq, beq_iff_eq, and_assoc]
theorem numK_yes {k : Int} (h : k = 1 ∨ k = 2) : numK k = true := (numK_iff k).2 h
theorem numK_no {k : Int} (h : k = 3 ∨ k = 4) : numK k = false := by rcases h with rfl | rfl <;> rfl
theorem conS_yes {k n : Int} {s : ByteArray} (h : k = 1 ∨ k = 2) : conS k n s = ⟨(dz n).toArray⟩ := by unfold conS; rw [numK_yes h]; rfl
theorem conS_no {k n : Int} {s : ByteArray} (h : k = 3 ∨ k = 4) : conS k n s = s := by unfold conS; rw [numK_no h]; rfl
theorem right1 {n : Int} {l : List UInt8} (h : rightV 1 n l = true) : fitsB n 32 = true ∧ l = [] := by
  unfold rightV at h
  simpa using h
theorem right34 {k n : Int} {l : List UInt8} (hk : k = 3 ∨ k = 4) (h : rightV k n l = true) : n = 0 ∧ l.length ≤ 120 ∧ (k = 3 → (sg l).isSome = true) := by
  unfold rightV at h
  rcases hk with rfl | rfl
  · simp at h
    exact ⟨h.1.1, h.1.2, fun _ => h.2⟩
  · simp at h
    exact ⟨h.1, h.2, fun e => absurd e (by decide)⟩
theorem con_len {k m n : Int} {s : ByteArray} (hf : fitT k m k n s = true) (h1 : -9223372036854775808 ≤ n) (h2 : n < 9223372036854775808) : ((conS k n s).size : Int) ≤ roomT k m := by
  rw [fit_iff] at hf
  obtain ⟨a, b, _, d⟩ := hf
  have r := roomT_spec k m
  rw [rightT_iff] at a
  have hk : k = 1 ∨ k = 2 ∨ (k = 3 ∨ k = 4) := by omega
  rcases hk with rfl | rfl | hk
  · rw [conS_yes (.inl rfl), ba_size, r.1 rfl]
    have := dz_len32 n (right1 b).1
    omega
  · rw [conS_yes (.inr rfl), ba_size, r.2.1 rfl]
    have := dz_len n h1 h2
    omega
  · rw [conS_no hk, r.2.2 (by omega) (by omega)]
    exact d
theorem widen {ak am bk bm k n : Int} {s : ByteArray} (hw : wideT bk bm ak am = true) (hf : fitT ak am k n s = true) (h1 : -9223372036854775808 ≤ n) (h2 : n < 9223372036854775808) :
    castR k n s bk bm = cR (VV bk (cN bk n) (cS bk k n s)) 0 ∧ fitT bk bm bk (cN bk n) (cS bk k n s) = true := by
  have hf' := hf
  rw [fit_iff] at hf'
  obtain ⟨a, b, rfl, d⟩ := hf'
  have hl := con_len hf h1 h2
  rw [wideT_iff] at hw
  obtain ⟨e, _, f, g⟩ := hw
  have e' := (rightT_iff bk bm).1 e
  rw [rightT_iff] at a
  have hz : (k == 0) = false := by
    rw [beq_eq_false_iff_ne]
    omega
  have hle : decide (k ≤ bk) = true := by simpa using f
  constructor
  · unfold castR cN cS
    rw [b, e, hz, hle]
    by_cases hn : bk = 1 ∨ bk = 2
    · rw [numK_yes hn]; rfl
    · have hn' : bk = 3 ∨ bk = 4 := by omega
      have hd : decide (bm < ((conS k n s).size : Int)) = false := by simp; omega
      rw [numK_no hn', hd]; rfl
  · rw [fit_iff]
    unfold cN cS
    by_cases hn : bk = 1 ∨ bk = 2
    · rw [numK_yes hn]
      refine ⟨e, ?_, rfl, by show (0 : Int) ≤ bm; omega⟩
      rcases hn with rfl | rfl
      · obtain rfl : k = 1 := by omega
        have := (right1 b).1
        show rightV 1 n [] = true
        unfold rightV
        simp [this]
      · rfl
    · have hn' : bk = 3 ∨ bk = 4 := by omega
      rw [numK_no hn']
      refine ⟨e, ?_, rfl, by show ((conS k n s).size : Int) ≤ bm; omega⟩
      show rightV bk 0 (bs (conS k n s)) = true
      have hlen : (bs (conS k n s)).length ≤ 120 := by rw [bs_length]; omega
      rcases hn' with rfl | rfl
      · have hs : (sg (bs (conS k n s))).isSome = true := by
          by_cases hk : k = 1 ∨ k = 2
          · rw [conS_yes hk, bs_mk (dz n)]
            exact asc_sg _ (dz_asc n)
          · obtain rfl : k = 3 := by omega
            rw [conS_no (.inl rfl)]
            exact (right34 (.inl rfl) b).2.2 rfl
        unfold rightV
        simp [hlen, hs]
      · unfold rightV
        simp [hlen]
theorem empty_of {s : ByteArray} (h : bs s = []) : s = ⟨#[]⟩ := is_empty s (by rw [← bs_length, h]; rfl)
/-- unlike values stay unlike -/
theorem widen_same {ak am bk bm k n k' n' : Int} {s s' : ByteArray} (hw : wideT bk bm ak am = true) (hf : fitT ak am k n s = true) (hf' : fitT ak am k' n' s' = true) :
    (n = n' ∧ s = s') ∨ (n ≠ n' ∧ cN bk n ≠ cN bk n') ∨ (n ≠ n' ∧ cN bk n = cN bk n' ∧ cS bk k n s ≠ cS bk k' n' s') ∨ (n = n' ∧ s ≠ s' ∧ cN bk n = cN bk n' ∧ cS bk k n s ≠ cS bk k' n' s') := by
  rw [fit_iff] at hf hf'
  obtain ⟨a, b, rfl, d⟩ := hf
  obtain ⟨_, b', rfl, d'⟩ := hf'
  rw [wideT_iff] at hw
  obtain ⟨e, _, f, g⟩ := hw
  rw [rightT_iff] at a e
  unfold cN cS
  by_cases hk : k' = 1 ∨ k' = 2
  · have q1 := empty_of (rightV_num b hk)
    have q2 := empty_of (rightV_num b' hk)
    subst q1 q2
    by_cases hn : n = n'
    · exact .inl ⟨hn, rfl⟩
    · by_cases hb : bk = 1 ∨ bk = 2
      · rw [numK_yes hb]
        exact .inr (.inl ⟨hn, hn⟩)
      · rw [numK_no (by omega), conS_yes hk, conS_yes hk]
        refine .inr (.inr (.inl ⟨hn, rfl, fun h => hn ?_⟩))
        have : bs ⟨(dz n).toArray⟩ = bs ⟨(dz n').toArray⟩ := congrArg bs h
        rw [bs_mk (dz n), bs_mk (dz n')] at this
        exact dz_inj this
  · have hk' : k' = 3 ∨ k' = 4 := by omega
    have z1 := (right34 hk' b).1
    have z2 := (right34 hk' b').1
    subst z1 z2
    by_cases hs : s = s'
    · exact .inl ⟨rfl, hs⟩
    · rw [numK_no (show bk = 3 ∨ bk = 4 by omega), conS_no hk', conS_no hk']
      exact .inr (.inr (.inr ⟨rfl, hs, rfl, hs⟩))
/-- cast on is cast at once -/
theorem widen_on {bk ck k n : Int} {s : ByteArray} (hk : 1 ≤ k) (h1 : k ≤ bk) (h2 : bk ≤ ck) (h3 : ck ≤ 4) : cN ck (cN bk n) = cN ck n ∧ cS ck bk (cN bk n) (cS bk k n s) = cS ck k n s := by
  unfold cN cS
  by_cases hc : ck = 1 ∨ ck = 2
  · rw [numK_yes hc, numK_yes (show bk = 1 ∨ bk = 2 by omega)]
    exact ⟨rfl, rfl⟩
  · rw [numK_no (show ck = 3 ∨ ck = 4 by omega)]
    refine ⟨rfl, ?_⟩
    show conS bk _ _ = conS k n s
    by_cases hb : bk = 1 ∨ bk = 2
    · rw [numK_yes hb, conS_yes hb, conS_yes (show k = 1 ∨ k = 2 by omega)]; rfl
    · rw [numK_no (show bk = 3 ∨ bk = 4 by omega), conS_no (show bk = 3 ∨ bk = 4 by omega)]; rfl
end Go.Proofs.YtebldfnocpcddaaGreatDoor

/-
  The examples that each law of layer typ asks first.
-/
namespace Go.Proofs.YtebldfnocpcddaaGreatDoor
open Go.RowKit

theorem wfT {n : Int} (h : (Lit.int .i64 n).wf = true) : -9223372036854775808 ≤ n ∧ n < 9223372036854775808 := by
  have h2 : IntKind.i64.min ≤ n ∧ n ≤ 9223372036854775807 := by simpa [Lit.wf] using h
  have h3 : (-9223372036854775808 : Int) = IntKind.i64.min := by decide
  omega
theorem lives_j : joinR 1 0 3 5 = .tuple #[TT 3 11, .bool true] := by
  rw [joinR_yes 1 0 3 5 (by decide) (by decide)]
  rfl
theorem lives_c : castR 1 (-7) ⟨#[]⟩ 3 11 = .tuple #[VV 3 0 ⟨#[45, 55]⟩, .int .i64 0] := by
  have h1 : conS 1 (-7) ⟨#[]⟩ = ⟨#[45, 55]⟩ := by
    show (⟨(dz (-7)).toArray⟩ : ByteArray) = _
    rw [dz_neg (by decide), dn_lt (by decide)]; rfl
  have h2 : rightV 1 (-7) (bs ⟨#[]⟩) = true := by decide
  unfold castR
  rw [h1, h2]
  rfl
end Go.Proofs.YtebldfnocpcddaaGreatDoor

/-
  Contracts of package typ's kindOf, readMax, Read and Parse.
-/
namespace Go.Proofs.YtebldfnocpcddaaGreatDoor
open Go.RowKit

theorem str_beq (a b : ByteArray) : (a.toList == b.toList) = decide (bs a = bs b) := by
  rw [ByteArray.toList_eq, ByteArray.toList_eq]
  show (bs a == bs b) = _
  by_cases h : bs a = bs b
  · simp [h]
  · simp [h]
set_option maxRecDepth 100000 in
set_option maxHeartbeats 1600000 in
theorem kof_any (s : ByteArray) (w : World) (hk : KTab w) : Calls Tryz.prog 100 #[.string s] w fun e w' => e = .returned (.int .i64 (kindL (bs s) : Nat)) ∧ w = w' := by
  have k1 : w.cell? ⟨1, 1, none⟩ = some (.string (kname 1)) := hk 1 (by omega)
  have k2 : w.cell? ⟨1, 2, none⟩ = some (.string (kname 2)) := hk 2 (by omega)
  have k3 : w.cell? ⟨1, 3, none⟩ = some (.string (kname 3)) := hk 3 (by omega)
  have k4 : w.cell? ⟨1, 4, none⟩ = some (.string (kname 4)) := hk 4 (by omega)
  clear hk
  have e1 := str_beq (kname 1) s
  have e2 := str_beq (kname 2) s
  have e3 := str_beq (kname 3) s
  have e4 := str_beq (kname 4) s
  rw [show bs (kname 1) = nmI from rfl] at e1
  rw [show bs (kname 2) = nmL from rfl] at e2
  rw [show bs (kname 3) = nmT from rfl] at e3
  rw [show bs (kname 4) = nmB from rfl] at e4
  generalize kname 1 = n1 at k1 e1
  generalize kname 2 = n2 at k2 e2
  generalize kname 3 = n3 at k3 e3
  generalize kname 4 = n4 at k4 e4
  have hc := kindL_cases (bs s)
  generalize kindL (bs s) = c at hc
  generalize bs s = l at hc e1 e2 e3 e4
  rcases hc with ⟨rfl, rfl⟩ | ⟨rfl, rfl⟩ | ⟨rfl, rfl⟩ | ⟨rfl, rfl⟩ | ⟨h1, h2, h3, h4, rfl⟩
  · have f1 : (n1.toList == s.toList) = true := e1.trans (by decide)
    clear e1 e2 e3 e4
    go_enter Tryz.func100, Tryz.ntmps100
    go_wp2_with fail
    go_rounds 1
    go_ret
    exact ⟨rfl, rfl⟩
  · have f1 : (n1.toList == s.toList) = false := e1.trans (by decide)
    have f2 : (n2.toList == s.toList) = true := e2.trans (by decide)
    clear e1 e2 e3 e4
    go_enter Tryz.func100, Tryz.ntmps100
    go_wp2_with fail
    go_rounds 2
    go_ret
    exact ⟨rfl, rfl⟩
  · have f1 : (n1.toList == s.toList) = false := e1.trans (by decide)
    have f2 : (n2.toList == s.toList) = false := e2.trans (by decide)
    have f3 : (n3.toList == s.toList) = true := e3.trans (by decide)
    clear e1 e2 e3 e4
    go_enter Tryz.func100, Tryz.ntmps100
    go_wp2_with fail
    go_rounds 3
    go_ret
    exact ⟨rfl, rfl⟩
  · have f1 : (n1.toList == s.toList) = false := e1.trans (by decide)
    have f2 : (n2.toList == s.toList) = false := e2.trans (by decide)
    have f3 : (n3.toList == s.toList) = false := e3.trans (by decide)
    have f4 : (n4.toList == s.toList) = true := e4.trans (by decide)
    clear e1 e2 e3 e4
    go_enter Tryz.func100, Tryz.ntmps100
    go_wp2_with fail
    go_rounds 4
    go_ret
    exact ⟨rfl, rfl⟩
  · have f1 : (n1.toList == s.toList) = false := e1.trans (decide_eq_false fun h => h1 h.symm)
    have f2 : (n2.toList == s.toList) = false := e2.trans (decide_eq_false fun h => h2 h.symm)
    have f3 : (n3.toList == s.toList) = false := e3.trans (decide_eq_false fun h => h3 h.symm)
    have f4 : (n4.toList == s.toList) = false := e4.trans (decide_eq_false fun h => h4 h.symm)
    clear e1 e2 e3 e4 h1 h2 h3 h4
    go_enter Tryz.func100, Tryz.ntmps100
    go_wp2_with fail
    go_rounds 5
    go_ret
    exact ⟨rfl, rfl⟩
theorem pre_one (l : List UInt8) (c : UInt8) : [c].isPrefixOf l = decide (l[0]? = some c) := by
  cases l with
  | nil => simp
  | cons a r =>
    by_cases h : c = a
    · subst h; simp
    · have h' : ¬ a = c := fun e => h e.symm
      simp [List.isPrefixOf, h, h']
theorem cutp_yes (s : ByteArray) (w : World) (h : (bs s)[0]? = some 40) : Calls Tryz.prog 126 #[.string s, .string ⟨#[40]⟩] w fun e w' => e = .returned (.tuple #[.string (s.extract 1 s.size), .bool true]) ∧ w = w' := by
  have h1 : Lib.hasPrefix (bs s) [40] = true := by rw [Lib.hasPrefix, pre_one]; exact decide_eq_true h
  have h2 : (⟨(Lib.trimPrefix (bs s) [40]).toArray⟩ : ByteArray) = s.extract 1 s.size := by
    apply bs_eq
    rw [bs_mk, bs_rest]
    unfold Lib.trimPrefix
    rw [if_pos h1]; rfl
  exact (Any.strings_CutPrefix lay_Lays_n103 s ⟨#[40]⟩ w).mono fun e w' ⟨he, hw⟩ => ⟨by
    rw [he]
    show Ending.returned (.tuple #[.string ⟨(Lib.trimPrefix (bs s) [40]).toArray⟩, .bool (Lib.hasPrefix (bs s) [40])]) = _
    rw [h1, h2], hw.symm⟩
theorem cutp_no (s : ByteArray) (w : World) (h : (bs s)[0]? ≠ some 40) : Calls Tryz.prog 126 #[.string s, .string ⟨#[40]⟩] w fun e w' => e = .returned (.tuple #[.string s, .bool false]) ∧ w = w' := by
  have h1 : Lib.hasPrefix (bs s) [40] = false := by rw [Lib.hasPrefix, pre_one]; exact decide_eq_false h
  have h2 : (⟨(Lib.trimPrefix (bs s) [40]).toArray⟩ : ByteArray) = s := by
    apply bs_eq
    rw [bs_mk]
    unfold Lib.trimPrefix
    rw [if_neg (by rw [h1]; simp)]
  exact (Any.strings_CutPrefix lay_Lays_n103 s ⟨#[40]⟩ w).mono fun e w' ⟨he, hw⟩ => ⟨by
    rw [he]
    show Ending.returned (.tuple #[.string ⟨(Lib.trimPrefix (bs s) [40]).toArray⟩, .bool (Lib.hasPrefix (bs s) [40])]) = _
    rw [h1, h2], hw.symm⟩
theorem hasp_any (s : ByteArray) (w : World) : Calls Tryz.prog 98 #[.string s, .string ⟨#[41]⟩] w fun e w' => e = .returned (.bool (decide ((bs s)[0]? = some 41))) ∧ w = w' :=
  (Any.strings_HasPrefix lay_Lays_n99 s ⟨#[41]⟩ w).mono fun e w' ⟨he, hw⟩ => ⟨by
    rw [he]
    show Ending.returned (.bool (([41] : List UInt8).isPrefixOf (bs s))) = _
    rw [pre_one], hw.symm⟩

/-- what readMax returns -/
def rmV (r : Int × Nat × Nat) : Value := .tuple #[.int .i64 r.1, .int .i64 (r.2.1 : Nat), .int .i64 (r.2.2 : Nat)]
set_option maxRecDepth 100000 in
set_option maxHeartbeats 1600000 in
theorem readMax_any (s : ByteArray) (w : World) (hs : s.size ≤ 1000000) : Calls Tryz.prog 102 #[.string s] w fun e w' => e = .returned (rmV (rmaxW (bs s))) ∧ w = w' := by
  by_cases h40 : (bs s)[0]? = some 40
  · have HC := Lib.hid (fun w => cutp_yes s w h40)
    have hpos : 0 < s.size := by rw [← bs_length]; exact (List.getElem?_eq_some_iff.1 h40).1
    have HN := Lib.hid (fun w => number_any (s.extract 1 s.size) w (by simp; omega))
    have hR : (s.extract 1 s.size).size = s.size - 1 := by simp
    have Hbs := Lib.hid (bs_rest s 1)
    obtain ⟨⟨z, k, e⟩, hn⟩ : ∃ r, numW ((bs s).drop 1) = r := ⟨_, rfl⟩
    have hV : numV (bs (s.extract 1 s.size)) = .tuple #[.int .i64 z, .int .i64 (k : Nat), .int .i64 (e : Nat)] := by
      unfold numV
      rw [Hbs.out, hn]
    rw [hV] at HN
    clear hV
    have Hv := Lib.hid (rmaxW_yes h40 hn)
    by_cases he : e = 0
    · subst he
      have hk : k ≤ s.size - 1 := by
        have := (num_back hn).2.2.2
        rw [List.length_drop, bs_length] at this
        exact this
      have HP := Lib.hid (fun w => hasp_any ((s.extract 1 s.size).extract k (s.extract 1 s.size).size) w)
      rw [bs_rest, Hbs.out, List.drop_drop, List.getElem?_drop, Nat.add_zero] at HP
      have HM := Lib.hid (fun w => rmax_any z w)
      rw [rmax2] at Hv
      clear hn h40 Hbs
      generalize s.extract 1 s.size = R at HC HN HP hR
      have i1 : (k : Int) ≤ (R.size : Int) := by omega
      clear hR
      by_cases h41 : (bs s)[1 + k]? = some 41
      · rw [if_pos rfl, if_pos h41] at Hv
        rw [decide_eq_true h41] at HP
        clear h41
        generalize maxK z = b at HM Hv
        cases b
        · go_enter Tryz.func102, Tryz.ntmps102
          go_wp2_with fail
          refine (HC.out _).mono ?_
          rintro e w1 ⟨rfl, rfl⟩
          go_wp2_with fail
          refine (HN.out _).mono ?_
          rintro e w1 ⟨rfl, rfl⟩
          go_wp2_with fail
          refine (HP.out _).mono ?_
          rintro e w1 ⟨rfl, rfl⟩
          go_wp2_with fail
          refine (HM.out _).mono ?_
          rintro e w1 ⟨rfl, rfl⟩
          go_wp2_with fail
          go_returns
          exact ⟨by rw [Hv.out]; rfl, rfl⟩
        · go_enter Tryz.func102, Tryz.ntmps102
          go_wp2_with fail
          refine (HC.out _).mono ?_
          rintro e w1 ⟨rfl, rfl⟩
          go_wp2_with fail
          refine (HN.out _).mono ?_
          rintro e w1 ⟨rfl, rfl⟩
          go_wp2_with fail
          refine (HP.out _).mono ?_
          rintro e w1 ⟨rfl, rfl⟩
          go_wp2_with fail
          refine (HM.out _).mono ?_
          rintro e w1 ⟨rfl, rfl⟩
          go_wp2_with fail
          go_returns
          refine ⟨?_, rfl⟩
          rw [Hv.out]
          show _ = Ending.returned (.tuple #[.int .i64 z, .int .i64 ((k + 2 : Nat) : Int), .int .i64 0])
          rw [show (((k + 2 : Nat) : Int)) = 1 + (k : Int) + 1 by omega]
          rfl
      · rw [if_pos rfl, if_neg h41] at Hv
        rw [decide_eq_false h41] at HP
        clear h41
        go_enter Tryz.func102, Tryz.ntmps102
        go_wp2_with fail
        refine (HC.out _).mono ?_
        rintro e w1 ⟨rfl, rfl⟩
        go_wp2_with fail
        refine (HN.out _).mono ?_
        rintro e w1 ⟨rfl, rfl⟩
        go_wp2_with fail
        refine (HP.out _).mono ?_
        rintro e w1 ⟨rfl, rfl⟩
        go_wp2_with fail
        go_returns
        exact ⟨by rw [Hv.out]; rfl, rfl⟩
    · have d : ((e : Int) != 0) = true := by simp; omega
      rw [rmax2, if_neg he] at Hv
      clear hn h40 Hbs
      generalize s.extract 1 s.size = R at HC HN hR
      clear hR
      go_enter Tryz.func102, Tryz.ntmps102
      go_wp2_with fail
      refine (HC.out _).mono ?_
      rintro e w1 ⟨rfl, rfl⟩
      go_wp2_with fail
      refine (HN.out _).mono ?_
      rintro e w1 ⟨rfl, rfl⟩
      go_wp2_with fail
      go_returns
      exact ⟨by rw [Hv.out]; rfl, rfl⟩
  · have HC := Lib.hid (fun w => cutp_no s w h40)
    have Hv := Lib.hid (rmaxW_no h40)
    clear h40
    go_enter Tryz.func102, Tryz.ntmps102
    go_wp2_with fail
    refine (HC.out _).mono ?_
    rintro e w1 ⟨rfl, rfl⟩
    go_wp2_with fail
    go_returns
    exact ⟨by rw [Hv.out]; rfl, rfl⟩
end Go.Proofs.YtebldfnocpcddaaGreatDoor

/-
  Contracts of package typ's Read and Parse.
-/
namespace Go.Proofs.YtebldfnocpcddaaGreatDoor
open Go.RowKit

/-- what Read and Parse return -/
def trdV (r : (Int × Int) × Nat × Nat) : Value := .tuple #[TT r.1.1 r.1.2, .int .i64 (r.2.1 : Nat), .int .i64 (r.2.2 : Nat)]
def tpsV (r : (Int × Int) × Nat) : Value := .tuple #[TT r.1.1 r.1.2, .int .i64 (r.2 : Nat)]
set_option maxRecDepth 100000 in
set_option maxHeartbeats 3200000 in
theorem tread_any (s : ByteArray) (w : World) (hk : KTab w) (hs : s.size ≤ 1000000) : Calls Tryz.prog 84 #[.string s] w fun e w' => e = .returned (trdV (readT (bs s))) ∧ Below w.heap.size w w' := by
  have HT := Lib.hid hk; clear hk
  have H1 := Lib.hid (fun w => nread_any s w hs)
  have hle := rdN_le (bs s)
  rw [bs_length] at hle
  have HK := Lib.hid (fun w hk => kof_any (s.extract 0 (rdN (bs s))) w hk)
  rw [bs_front] at HK
  have HM := Lib.hid (fun w => readMax_any (s.extract (rdN (bs s)) s.size) w (by simp; omega))
  rw [bs_rest] at HM
  have h1 := readT_1 (l := bs s)
  have h2 := readT_2 (l := bs s)
  have h0 := readT_0 (l := bs s)
  have h3 := fun c m k e => readT_s (l := bs s) (c := c) (m := m) (k := k) (e := e)
  have hok := fun z k => rmaxW_ok (l := (bs s).drop (rdN (bs s))) (z := z) (k := k)
  have hdl : ((bs s).drop (rdN (bs s))).length ≤ s.size := by rw [List.length_drop, bs_length]; omega
  have hc := kindL_cases ((bs s).take (rdN (bs s)))
  generalize kindL ((bs s).take (rdN (bs s))) = c at HK h1 h2 h0 h3 hc
  generalize rmaxW ((bs s).drop (rdN (bs s))) = q at HM h3 hok
  obtain ⟨m, k, e⟩ := q
  replace HM : Hid (∀ w, Calls Tryz.prog 102 #[.string (s.extract (rdN (bs s)) s.size)] w fun e' w' => e' = .returned (.tuple #[.int .i64 m, .int .i64 (k : Nat), .int .i64 (e : Nat)]) ∧ w = w') := HM
  generalize rdN (bs s) = n at H1 hle HK HM h1 h2 h0 h3 hc
  have i0 : (0 : Int) ≤ (n : Int) := by omega
  have i1 : (n : Int) ≤ (s.size : Int) := by omega
  clear hle
  rcases hc with ⟨-, rfl⟩ | ⟨-, rfl⟩ | ⟨-, rfl⟩ | ⟨-, rfl⟩ | ⟨q1, q2, q3, q4, rfl⟩
  · have Hv := Lib.hid (h1 rfl)
    clear h0 h1 h2 h3 hok hdl
    have HN := Lib.hid (fun w => isnum_any 1 w)
    rw [show numK 1 = true from rfl] at HN
    have HS := Lib.hid (fun w => isstr_any 1 w)
    rw [show strK 1 = false from rfl] at HS
    go_enter Tryz.func84, Tryz.ntmps84
    go_wp2_with fail
    refine (H1.out _).mono ?_
    rintro e w1 ⟨rfl, rfl⟩
    go_wp2_with fail
    refine (HK.out _ (HT.out.alloc _)).mono ?_
    rintro e w1 ⟨rfl, rfl⟩
    go_wp2_with fail
    refine (HN.out _).mono ?_
    rintro e w1 ⟨rfl, rfl⟩
    go_wp2_with fail
    go_returns
    exact ⟨by rw [Hv.out]; rfl, by go_grown⟩
  · have Hv := Lib.hid (h2 rfl)
    clear h0 h1 h2 h3 hok hdl
    have HN := Lib.hid (fun w => isnum_any 2 w)
    rw [show numK 2 = true from rfl] at HN
    have HS := Lib.hid (fun w => isstr_any 2 w)
    rw [show strK 2 = false from rfl] at HS
    go_enter Tryz.func84, Tryz.ntmps84
    go_wp2_with fail
    refine (H1.out _).mono ?_
    rintro e w1 ⟨rfl, rfl⟩
    go_wp2_with fail
    refine (HK.out _ (HT.out.alloc _)).mono ?_
    rintro e w1 ⟨rfl, rfl⟩
    go_wp2_with fail
    refine (HN.out _).mono ?_
    rintro e w1 ⟨rfl, rfl⟩
    go_wp2_with fail
    go_returns
    exact ⟨by rw [Hv.out]; rfl, by go_grown⟩
  · have Hv := Lib.hid (h3 3 m k e rfl (by omega) rfl)
    clear h0 h1 h2 h3
    have HN := Lib.hid (fun w => isnum_any 3 w)
    rw [show numK 3 = false from rfl] at HN
    have HS := Lib.hid (fun w => isstr_any 3 w)
    rw [show strK 3 = true from rfl] at HS
    unfold readT2 at Hv
    by_cases he : e = 0
    · subst he
      rw [if_pos rfl] at Hv
      have hk := (hok m k rfl).2.2
      have iw : wrap64 ((n : Int) + (k : Int)) = (n : Int) + (k : Int) := by go_arith
      clear hok hk hdl
      go_enter Tryz.func84, Tryz.ntmps84
      go_wp2_with fail
      refine (H1.out _).mono ?_
      rintro e w1 ⟨rfl, rfl⟩
      go_wp2_with fail
      refine (HK.out _ (HT.out.alloc _)).mono ?_
      rintro e w1 ⟨rfl, rfl⟩
      go_wp2_with fail
      refine (HN.out _).mono ?_
      rintro e w1 ⟨rfl, rfl⟩
      go_wp2_with fail
      refine (HS.out _).mono ?_
      rintro e w1 ⟨rfl, rfl⟩
      go_wp2_with fail
      refine (HM.out _).mono ?_
      rintro e w1 ⟨rfl, rfl⟩
      go_wp2_with fail
      go_returns
      refine ⟨?_, by go_grown⟩
      rw [Hv.out]
      show _ = Ending.returned (.tuple #[TT 3 m, .int .i64 ((n + k : Nat) : Int), .int .i64 0])
      rw [show (((n + k : Nat) : Int)) = (n : Int) + (k : Int) by omega]
      first | (rw [iw]; rfl) | rw [iw]
    · have d : ((e : Int) != 0) = true := by simp; omega
      rw [if_neg he] at Hv
      clear he hok hdl
      go_enter Tryz.func84, Tryz.ntmps84
      go_wp2_with fail
      refine (H1.out _).mono ?_
      rintro e w1 ⟨rfl, rfl⟩
      go_wp2_with fail
      refine (HK.out _ (HT.out.alloc _)).mono ?_
      rintro e w1 ⟨rfl, rfl⟩
      go_wp2_with fail
      refine (HN.out _).mono ?_
      rintro e w1 ⟨rfl, rfl⟩
      go_wp2_with fail
      refine (HS.out _).mono ?_
      rintro e w1 ⟨rfl, rfl⟩
      go_wp2_with fail
      refine (HM.out _).mono ?_
      rintro e w1 ⟨rfl, rfl⟩
      go_wp2_with fail
      go_returns
      exact ⟨by rw [Hv.out]; rfl, by go_grown⟩
  · have Hv := Lib.hid (h3 4 m k e rfl (by omega) rfl)
    clear h0 h1 h2 h3
    have HN := Lib.hid (fun w => isnum_any 4 w)
    rw [show numK 4 = false from rfl] at HN
    have HS := Lib.hid (fun w => isstr_any 4 w)
    rw [show strK 4 = true from rfl] at HS
    unfold readT2 at Hv
    by_cases he : e = 0
    · subst he
      rw [if_pos rfl] at Hv
      have hk := (hok m k rfl).2.2
      have iw : wrap64 ((n : Int) + (k : Int)) = (n : Int) + (k : Int) := by go_arith
      clear hok hk hdl
      go_enter Tryz.func84, Tryz.ntmps84
      go_wp2_with fail
      refine (H1.out _).mono ?_
      rintro e w1 ⟨rfl, rfl⟩
      go_wp2_with fail
      refine (HK.out _ (HT.out.alloc _)).mono ?_
      rintro e w1 ⟨rfl, rfl⟩
      go_wp2_with fail
      refine (HN.out _).mono ?_
      rintro e w1 ⟨rfl, rfl⟩
      go_wp2_with fail
      refine (HS.out _).mono ?_
      rintro e w1 ⟨rfl, rfl⟩
      go_wp2_with fail
      refine (HM.out _).mono ?_
      rintro e w1 ⟨rfl, rfl⟩
      go_wp2_with fail
      go_returns
      refine ⟨?_, by go_grown⟩
      rw [Hv.out]
      show _ = Ending.returned (.tuple #[TT 4 m, .int .i64 ((n + k : Nat) : Int), .int .i64 0])
      rw [show (((n + k : Nat) : Int)) = (n : Int) + (k : Int) by omega]
      first | (rw [iw]; rfl) | rw [iw]
    · have d : ((e : Int) != 0) = true := by simp; omega
      rw [if_neg he] at Hv
      clear he hok hdl
      go_enter Tryz.func84, Tryz.ntmps84
      go_wp2_with fail
      refine (H1.out _).mono ?_
      rintro e w1 ⟨rfl, rfl⟩
      go_wp2_with fail
      refine (HK.out _ (HT.out.alloc _)).mono ?_
      rintro e w1 ⟨rfl, rfl⟩
      go_wp2_with fail
      refine (HN.out _).mono ?_
      rintro e w1 ⟨rfl, rfl⟩
      go_wp2_with fail
      refine (HS.out _).mono ?_
      rintro e w1 ⟨rfl, rfl⟩
      go_wp2_with fail
      refine (HM.out _).mono ?_
      rintro e w1 ⟨rfl, rfl⟩
      go_wp2_with fail
      go_returns
      exact ⟨by rw [Hv.out]; rfl, by go_grown⟩
  · have Hv := Lib.hid (h0 rfl)
    clear h0 h1 h2 h3 q1 q2 q3 q4 hok hdl
    have HN := Lib.hid (fun w => isnum_any 0 w)
    rw [show numK 0 = false from rfl] at HN
    have HS := Lib.hid (fun w => isstr_any 0 w)
    rw [show strK 0 = false from rfl] at HS
    go_enter Tryz.func84, Tryz.ntmps84
    go_wp2_with fail
    refine (H1.out _).mono ?_
    rintro e w1 ⟨rfl, rfl⟩
    go_wp2_with fail
    refine (HK.out _ (HT.out.alloc _)).mono ?_
    rintro e w1 ⟨rfl, rfl⟩
    go_wp2_with fail
    refine (HN.out _).mono ?_
    rintro e w1 ⟨rfl, rfl⟩
    go_wp2_with fail
    refine (HS.out _).mono ?_
    rintro e w1 ⟨rfl, rfl⟩
    go_wp2_with fail
    go_returns
    exact ⟨by rw [Hv.out]; rfl, by go_grown⟩
end Go.Proofs.YtebldfnocpcddaaGreatDoor

/-
  Contracts of package typ's Print and of the document's own.
-/
namespace Go.Proofs.YtebldfnocpcddaaGreatDoor
open Go.RowKit

theorem box_lt {w w1 : World} {o : Obj} (hb : Below (w.alloc o).heap.size (w.alloc o) w1) : w.heap.size < w1.heap.size := by have := hb.size; simp at this; omega
theorem pr_3 (m : Int) (D : ByteArray) (h : bs D = dz m) : kname 3 ++ ((⟨#[40]⟩ ++ D) ++ ⟨#[41]⟩) = (⟨(prT 3 m).toArray⟩ : ByteArray) := by
  refine bs_eq ?_
  rw [bs_append, bs_append, bs_append, h, bs_mk (prT 3 m)]; rfl
theorem pr_4 (m : Int) (D : ByteArray) (h : bs D = dz m) : kname 4 ++ ((⟨#[40]⟩ ++ D) ++ ⟨#[41]⟩) = (⟨(prT 4 m).toArray⟩ : ByteArray) := by
  refine bs_eq ?_
  rw [bs_append, bs_append, bs_append, h, bs_mk (prT 4 m)]; rfl
theorem pr_r3 (m : Int) (D : ByteArray) (h : bs D = dz m) : (⟨#[116, 101, 120, 116, 40]⟩ ++ D) ++ ⟨#[41]⟩ = (⟨(prT 3 m).toArray⟩ : ByteArray) := by
  refine bs_eq ?_
  rw [bs_append, bs_append, h, bs_mk (prT 3 m)]
  show [116, 101, 120, 116, 40] ++ dz m ++ [41] = nmT ++ (40 :: (dz m ++ [41]))
  simp [nmT]
theorem pr_r4 (m : Int) (D : ByteArray) (h : bs D = dz m) : (⟨#[98, 121, 116, 101, 115, 40]⟩ ++ D) ++ ⟨#[41]⟩ = (⟨(prT 4 m).toArray⟩ : ByteArray) := by
  refine bs_eq ?_
  rw [bs_append, bs_append, h, bs_mk (prT 4 m)]
  show [98, 121, 116, 101, 115, 40] ++ dz m ++ [41] = nmB ++ (40 :: (dz m ++ [41]))
  simp [nmB]
theorem kname_3 : (kname 3).size = 4 := rfl
theorem kname_4 : (kname 4).size = 5 := rfl
set_option maxHeartbeats 800000 in
theorem tprint_no (k m : Int) (w : World) (hr : rightT k m = false) : Calls Tryz.prog 71 #[TT k m] w fun e w' => e = .returned (.tuple #[.string ⟨#[]⟩, .int .i64 2]) ∧ Below w.heap.size w w' := by
  have H1 := Lib.hid (fun w => tright_any k m w)
  rw [hr] at H1
  clear hr
  go_enter Tryz.func71, Tryz.ntmps71
  go_wp2_with fail
  refine (H1.out _).mono ?_
  rintro e w1 ⟨rfl, hb1⟩
  have hb' := below_new hb1
  clear hb1
  go_wp2_with fail
  go_ret2
  exact ⟨rfl, hb'⟩
set_option maxRecDepth 100000 in
set_option maxHeartbeats 1600000 in
theorem tprint_yes (k m : Int) (w : World) (hk : KTab w) (hr : rightT k m = true) : Calls Tryz.prog 71 #[TT k m] w fun e w' => e = .returned (.tuple #[.string ⟨(prT k m).toArray⟩, .int .i64 0]) ∧ Below w.heap.size w w' := by
  have HT := Lib.hid hk; clear hk
  have H1 := Lib.hid (fun w => tright_any k m w)
  rw [hr] at H1
  rw [rightT_iff] at hr
  rcases hr with ⟨rfl | rfl, rfl⟩ | ⟨rfl | rfl, hr⟩
  · have HN := Lib.hid (fun w => isstr_any 1 w)
    rw [show strK 1 = false from rfl] at HN
    go_enter Tryz.func71, Tryz.ntmps71
    go_wp2_with fail
    refine (H1.out _).mono ?_
    rintro e w1 ⟨rfl, hb1⟩
    have HB := Lib.hid ((Blk2.new w _ _ _ _ rfl).below hb1 (by simp))
    have HT1 := Lib.hid ((HT.out.alloc _).below hb1 (Nat.le_refl _))
    have hlt := box_lt hb1
    have hb' := below_new hb1
    clear hb1
    obtain ⟨c0, c1, _⟩ := HB.out
    have kk : w1.cell? ⟨1, 1, none⟩ = some (.string (kname 1)) := HT1.out 1 (by omega)
    go_wp2_with fail
    refine (HN.out _).mono ?_
    rintro e w2 ⟨rfl, rfl⟩
    go_wp2_with fail
    go_ret2
    exact ⟨rfl, hb'⟩
  · have HN := Lib.hid (fun w => isstr_any 2 w)
    rw [show strK 2 = false from rfl] at HN
    go_enter Tryz.func71, Tryz.ntmps71
    go_wp2_with fail
    refine (H1.out _).mono ?_
    rintro e w1 ⟨rfl, hb1⟩
    have HB := Lib.hid ((Blk2.new w _ _ _ _ rfl).below hb1 (by simp))
    have HT1 := Lib.hid ((HT.out.alloc _).below hb1 (Nat.le_refl _))
    have hlt := box_lt hb1
    have hb' := below_new hb1
    clear hb1
    obtain ⟨c0, c1, _⟩ := HB.out
    have kk : w1.cell? ⟨1, 2, none⟩ = some (.string (kname 2)) := HT1.out 2 (by omega)
    go_wp2_with fail
    refine (HN.out _).mono ?_
    rintro e w2 ⟨rfl, rfl⟩
    go_wp2_with fail
    go_ret2
    exact ⟨rfl, hb'⟩
  · have HD := Lib.hid (fun w => digits_any m w (by omega) (by omega))
    have hX : (⟨(dz m).toArray⟩ : ByteArray).size ≤ 20 := by rw [ba_size]; exact dz_len _ (by omega) (by omega)
    have Hp := Lib.hid (pr_3 m ⟨(dz m).toArray⟩ (bs_mk _))
    generalize (⟨(dz m).toArray⟩ : ByteArray) = D at HD Hp hX
    have hs1 : ((⟨#[40]⟩ : ByteArray) ++ D).size = 1 + D.size := by rw [ByteArray.size_append]; rfl
    have hs2 : (((⟨#[40]⟩ : ByteArray) ++ D) ++ ⟨#[41]⟩).size = 1 + D.size + 1 := by rw [ByteArray.size_append, hs1]; rfl
    have hk3 := kname_3
    have hadd1 := fun w' => run_string_add_sum (P := Tryz.prog) (w := w') ⟨#[40]⟩ D (by show 1 + D.size ≤ _; omega)
    have hadd2 := fun w' => run_string_add_sum (P := Tryz.prog) (w := w') (⟨#[40]⟩ ++ D) ⟨#[41]⟩ (by show _ + 1 ≤ _; omega)
    have hadd3 := fun w' => run_string_add_sum (P := Tryz.prog) (w := w') (kname 3) ((⟨#[40]⟩ ++ D) ++ ⟨#[41]⟩) (by rw [hs2, hk3]; omega)
    clear hs1 hs2 hk3 hX hr
    have HN := Lib.hid (fun w => isstr_any 3 w)
    rw [show strK 3 = true from rfl] at HN
    go_enter Tryz.func71, Tryz.ntmps71
    go_wp2_with fail
    refine (H1.out _).mono ?_
    rintro e w1 ⟨rfl, hb1⟩
    have HB := Lib.hid ((Blk2.new w _ _ _ _ rfl).below hb1 (by simp))
    have HT1 := Lib.hid ((HT.out.alloc _).below hb1 (Nat.le_refl _))
    have hlt := box_lt hb1
    have hb' := below_new hb1
    clear hb1
    obtain ⟨c0, c1, _⟩ := HB.out
    have kk : w1.cell? ⟨1, 3, none⟩ = some (.string (kname 3)) := HT1.out 3 (by omega)
    go_wp2_with fail
    refine (HN.out _).mono ?_
    rintro e w2 ⟨rfl, rfl⟩
    go_wp2_with fail
    refine (HD.out _).mono ?_
    rintro e w3 ⟨rfl, hb3⟩
    go_wp2_with fail
    go_ret2
    exact ⟨by rw [← Hp.out]; rfl, hb'.trans (hb3.mono (Nat.le_of_lt hlt))⟩
  · have HD := Lib.hid (fun w => digits_any m w (by omega) (by omega))
    have hX : (⟨(dz m).toArray⟩ : ByteArray).size ≤ 20 := by rw [ba_size]; exact dz_len _ (by omega) (by omega)
    have Hp := Lib.hid (pr_4 m ⟨(dz m).toArray⟩ (bs_mk _))
    generalize (⟨(dz m).toArray⟩ : ByteArray) = D at HD Hp hX
    have hs1 : ((⟨#[40]⟩ : ByteArray) ++ D).size = 1 + D.size := by rw [ByteArray.size_append]; rfl
    have hs2 : (((⟨#[40]⟩ : ByteArray) ++ D) ++ ⟨#[41]⟩).size = 1 + D.size + 1 := by rw [ByteArray.size_append, hs1]; rfl
    have hk3 := kname_4
    have hadd1 := fun w' => run_string_add_sum (P := Tryz.prog) (w := w') ⟨#[40]⟩ D (by show 1 + D.size ≤ _; omega)
    have hadd2 := fun w' => run_string_add_sum (P := Tryz.prog) (w := w') (⟨#[40]⟩ ++ D) ⟨#[41]⟩ (by show _ + 1 ≤ _; omega)
    have hadd3 := fun w' => run_string_add_sum (P := Tryz.prog) (w := w') (kname 4) ((⟨#[40]⟩ ++ D) ++ ⟨#[41]⟩) (by rw [hs2, hk3]; omega)
    clear hs1 hs2 hk3 hX hr
    have HN := Lib.hid (fun w => isstr_any 4 w)
    rw [show strK 4 = true from rfl] at HN
    go_enter Tryz.func71, Tryz.ntmps71
    go_wp2_with fail
    refine (H1.out _).mono ?_
    rintro e w1 ⟨rfl, hb1⟩
    have HB := Lib.hid ((Blk2.new w _ _ _ _ rfl).below hb1 (by simp))
    have HT1 := Lib.hid ((HT.out.alloc _).below hb1 (Nat.le_refl _))
    have hlt := box_lt hb1
    have hb' := below_new hb1
    clear hb1
    obtain ⟨c0, c1, _⟩ := HB.out
    have kk : w1.cell? ⟨1, 4, none⟩ = some (.string (kname 4)) := HT1.out 4 (by omega)
    go_wp2_with fail
    refine (HN.out _).mono ?_
    rintro e w2 ⟨rfl, rfl⟩
    go_wp2_with fail
    refine (HD.out _).mono ?_
    rintro e w3 ⟨rfl, hb3⟩
    go_wp2_with fail
    go_ret2
    exact ⟨by rw [← Hp.out]; rfl, hb'.trans (hb3.mono (Nat.le_of_lt hlt))⟩
set_option maxRecDepth 100000 in
set_option maxHeartbeats 1600000 in
theorem trprint_yes (k m : Int) (w : World) (hr : rightT k m = true) : Calls Tryz.prog 28 #[TT k m] w fun e w' => e = .returned (.string ⟨(prT k m).toArray⟩) ∧ Below w.heap.size w w' := by
  rw [rightT_iff] at hr
  rcases hr with ⟨rfl | rfl, rfl⟩ | ⟨rfl | rfl, hr⟩
  · go_enter Tryz.func28, Tryz.ntmps28
    go_wp2_with fail
    go_ret
    exact ⟨rfl, by go_grown⟩
  · go_enter Tryz.func28, Tryz.ntmps28
    go_wp2_with fail
    go_ret
    exact ⟨rfl, by go_grown⟩
  · have HD := Lib.hid (fun w => rdigits_any m w (by omega) (by omega))
    have hX : (⟨(dz m).toArray⟩ : ByteArray).size ≤ 20 := by rw [ba_size]; exact dz_len _ (by omega) (by omega)
    have Hp := Lib.hid (pr_r3 m ⟨(dz m).toArray⟩ (bs_mk _))
    generalize (⟨(dz m).toArray⟩ : ByteArray) = D at HD Hp hX
    have hs1 : ((⟨#[116, 101, 120, 116, 40]⟩ : ByteArray) ++ D).size = 5 + D.size := by rw [ByteArray.size_append]; rfl
    have hadd1 := fun w' => run_string_add_sum (P := Tryz.prog) (w := w') ⟨#[116, 101, 120, 116, 40]⟩ D (by show 5 + D.size ≤ _; omega)
    have hadd2 := fun w' => run_string_add_sum (P := Tryz.prog) (w := w') (⟨#[116, 101, 120, 116, 40]⟩ ++ D) ⟨#[41]⟩ (by show _ + 1 ≤ _; omega)
    clear hs1 hX hr
    go_enter Tryz.func28, Tryz.ntmps28
    go_wp2_with fail
    refine (HD.out _).mono ?_
    rintro e w3 ⟨rfl, rfl⟩
    go_wp2_with fail
    go_ret
    exact ⟨by rw [← Hp.out]; rfl, by go_grown⟩
  · have HD := Lib.hid (fun w => rdigits_any m w (by omega) (by omega))
    have hX : (⟨(dz m).toArray⟩ : ByteArray).size ≤ 20 := by rw [ba_size]; exact dz_len _ (by omega) (by omega)
    have Hp := Lib.hid (pr_r4 m ⟨(dz m).toArray⟩ (bs_mk _))
    generalize (⟨(dz m).toArray⟩ : ByteArray) = D at HD Hp hX
    have hs1 : ((⟨#[98, 121, 116, 101, 115, 40]⟩ : ByteArray) ++ D).size = 6 + D.size := by rw [ByteArray.size_append]; rfl
    have hadd1 := fun w' => run_string_add_sum (P := Tryz.prog) (w := w') ⟨#[98, 121, 116, 101, 115, 40]⟩ D (by show 6 + D.size ≤ _; omega)
    have hadd2 := fun w' => run_string_add_sum (P := Tryz.prog) (w := w') (⟨#[98, 121, 116, 101, 115, 40]⟩ ++ D) ⟨#[41]⟩ (by show _ + 1 ≤ _; omega)
    clear hs1 hX hr
    go_enter Tryz.func28, Tryz.ntmps28
    go_wp2_with fail
    refine (HD.out _).mono ?_
    rintro e w3 ⟨rfl, rfl⟩
    go_wp2_with fail
    go_ret
    exact ⟨by rw [← Hp.out]; rfl, by go_grown⟩
end Go.Proofs.YtebldfnocpcddaaGreatDoor
