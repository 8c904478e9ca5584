/-
  The mathematics of widening: what fits a type is cast to each that is as wide.
-/
import Derived.Test.YtlfjkbghgfljaaaDoorTypFitC
import Derived.Test.YtlfjkbghgfljaaaDoorTypCastC
namespace Go.Proofs.YtlfjkbghgfljaaaDoor

theorem enc_asc (c : UInt8) (h : c.toNat < 128) : enc c.toNat = [c] := by
  unfold enc
  simp [h, by8]
theorem asc_text : ∀ (l : List UInt8), (∀ c ∈ l, c.toNat < 128) → text (l.map UInt8.toNat) = l
  | [], _ => rfl
  | a :: r, h => by
    have := asc_text r (fun c hc => h c (by simp [hc]))
    unfold text at this ⊢
    rw [List.map_cons, List.flatMap_cons, enc_asc a (h a (by simp)), this]; rfl
theorem asc_sg (l : List UInt8) (h : ∀ c ∈ l, c.toNat < 128) : (sg l).isSome = true := by
  have := sg_text (l.map UInt8.toNat) (fun n hn => by
    obtain ⟨c, hc, rfl⟩ := List.mem_map.1 hn
    have := h c hc
    rw [isP_iff]; omega) []
  rw [List.append_nil, asc_text l h, sg_nil] at this
  rw [this]; rfl
theorem dz_asc (z : Int) : ∀ c ∈ dz z, c.toNat < 128 := by
  have hd : ∀ c ∈ dn z.natAbs, c.toNat < 128 := fun c hc => by
    have := (isD_iff c).1 (dn_all _ c hc)
    omega
  unfold dz
  split
  · intro c hc
    rcases List.mem_cons.1 hc with rfl | hc
    · decide
    · exact hd c hc
  · exact hd
theorem dz_len32 (z : Int) (h : fitsB z 32 = true) : (dz z).length ≤ 11 := by
  rw [fitsB_eq z 32 (by omega)] at h
  simp at h
  have h3 := dn_len z.natAbs 10 (by omega) (by omega)
  unfold dz; split <;> simp <;> omega

def cN (bk n : Int) : Int := bif numK bk then n else 0
def cS (bk k n : Int) (s : ByteArray) : ByteArray := bif numK bk then ⟨#[]⟩ else conS k n s
theorem fit_iff (k m k' n : Int) (s : ByteArray) : fitT k m k' n s = true ↔ rightT k m = true ∧ rightV k' n (bs s) = true ∧ k' = k ∧ (s.size : Int) ≤ m := by
  unfold fitT
  simp only [Bool.and_eq_true, decide_eq_true_eq, beq_iff_eq, and_assoc]
theorem numK_yes {k : Int} (h : k = 1 ∨ k = 2) : numK k = true := (numK_iff k).2 h
theorem numK_no {k : Int} (h : k = 3 ∨ k = 4) : numK k = false := by rcases h with rfl | rfl <;> rfl
theorem conS_yes {k n : Int} {s : ByteArray} (h : k = 1 ∨ k = 2) : conS k n s = ⟨(dz n).toArray⟩ := by unfold conS; rw [numK_yes h]; rfl
theorem conS_no {k n : Int} {s : ByteArray} (h : k = 3 ∨ k = 4) : conS k n s = s := by unfold conS; rw [numK_no h]; rfl
theorem right1 {n : Int} {l : List UInt8} (h : rightV 1 n l = true) : fitsB n 32 = true ∧ l = [] := by
  unfold rightV at h
  simpa using h
theorem right34 {k n : Int} {l : List UInt8} (hk : k = 3 ∨ k = 4) (h : rightV k n l = true) : n = 0 ∧ l.length ≤ 120 ∧ (k = 3 → (sg l).isSome = true) := by
  unfold rightV at h
  rcases hk with rfl | rfl
  · simp at h
    exact ⟨h.1.1, h.1.2, fun _ => h.2⟩
  · simp at h
    exact ⟨h.1, h.2, fun e => absurd e (by decide)⟩
theorem con_len {k m n : Int} {s : ByteArray} (hf : fitT k m k n s = true) (h1 : -9223372036854775808 ≤ n) (h2 : n < 9223372036854775808) : ((conS k n s).size : Int) ≤ roomT k m := by
  rw [fit_iff] at hf
  obtain ⟨a, b, _, d⟩ := hf
  have r := roomT_spec k m
  rw [rightT_iff] at a
  have hk : k = 1 ∨ k = 2 ∨ (k = 3 ∨ k = 4) := by omega
  rcases hk with rfl | rfl | hk
  · rw [conS_yes (.inl rfl), ba_size, r.1 rfl]
    have := dz_len32 n (right1 b).1
    omega
  · rw [conS_yes (.inr rfl), ba_size, r.2.1 rfl]
    have := dz_len n h1 h2
    omega
  · rw [conS_no hk, r.2.2 (by omega) (by omega)]
    exact d
theorem widen {ak am bk bm k n : Int} {s : ByteArray} (hw : wideT bk bm ak am = true) (hf : fitT ak am k n s = true) (h1 : -9223372036854775808 ≤ n) (h2 : n < 9223372036854775808) :
    castR k n s bk bm = cR (VV bk (cN bk n) (cS bk k n s)) 0 ∧ fitT bk bm bk (cN bk n) (cS bk k n s) = true := by
  have hf' := hf
  rw [fit_iff] at hf'
  obtain ⟨a, b, rfl, d⟩ := hf'
  have hl := con_len hf h1 h2
  rw [wideT_iff] at hw
  obtain ⟨e, _, f, g⟩ := hw
  have e' := (rightT_iff bk bm).1 e
  rw [rightT_iff] at a
  have hz : (k == 0) = false := by
    rw [beq_eq_false_iff_ne]
    omega
  have hle : decide (k ≤ bk) = true := by simpa using f
  constructor
  · unfold castR cN cS
    rw [b, e, hz, hle]
    by_cases hn : bk = 1 ∨ bk = 2
    · rw [numK_yes hn]; rfl
    · have hn' : bk = 3 ∨ bk = 4 := by omega
      have hd : decide (bm < ((conS k n s).size : Int)) = false := by simp; omega
      rw [numK_no hn', hd]; rfl
  · rw [fit_iff]
    unfold cN cS
    by_cases hn : bk = 1 ∨ bk = 2
    · rw [numK_yes hn]
      refine ⟨e, ?_, rfl, by show (0 : Int) ≤ bm; omega⟩
      rcases hn with rfl | rfl
      · obtain rfl : k = 1 := by omega
        have := (right1 b).1
        show rightV 1 n [] = true
        unfold rightV
        simp [this]
      · rfl
    · have hn' : bk = 3 ∨ bk = 4 := by omega
      rw [numK_no hn']
      refine ⟨e, ?_, rfl, by show ((conS k n s).size : Int) ≤ bm; omega⟩
      show rightV bk 0 (bs (conS k n s)) = true
      have hlen : (bs (conS k n s)).length ≤ 120 := by rw [bs_length]; omega
      rcases hn' with rfl | rfl
      · have hs : (sg (bs (conS k n s))).isSome = true := by
          by_cases hk : k = 1 ∨ k = 2
          · rw [conS_yes hk, bs_mk (dz n)]
            exact asc_sg _ (dz_asc n)
          · obtain rfl : k = 3 := by omega
            rw [conS_no (.inl rfl)]
            exact (right34 (.inl rfl) b).2.2 rfl
        unfold rightV
        simp [hlen, hs]
      · unfold rightV
        simp [hlen]
theorem empty_of {s : ByteArray} (h : bs s = []) : s = ⟨#[]⟩ := is_empty s (by rw [← bs_length, h]; rfl)
/-- unlike values stay unlike -/
theorem widen_same {ak am bk bm k n k' n' : Int} {s s' : ByteArray} (hw : wideT bk bm ak am = true) (hf : fitT ak am k n s = true) (hf' : fitT ak am k' n' s' = true) :
    (n = n' ∧ s = s') ∨ (n ≠ n' ∧ cN bk n ≠ cN bk n') ∨ (n ≠ n' ∧ cN bk n = cN bk n' ∧ cS bk k n s ≠ cS bk k' n' s') ∨ (n = n' ∧ s ≠ s' ∧ cN bk n = cN bk n' ∧ cS bk k n s ≠ cS bk k' n' s') := by
  rw [fit_iff] at hf hf'
  obtain ⟨a, b, rfl, d⟩ := hf
  obtain ⟨_, b', rfl, d'⟩ := hf'
  rw [wideT_iff] at hw
  obtain ⟨e, _, f, g⟩ := hw
  rw [rightT_iff] at a e
  unfold cN cS
  by_cases hk : k' = 1 ∨ k' = 2
  · have q1 := empty_of (rightV_num b hk)
    have q2 := empty_of (rightV_num b' hk)
    subst q1 q2
    by_cases hn : n = n'
    · exact .inl ⟨hn, rfl⟩
    · by_cases hb : bk = 1 ∨ bk = 2
      · rw [numK_yes hb]
        exact .inr (.inl ⟨hn, hn⟩)
      · rw [numK_no (by omega), conS_yes hk, conS_yes hk]
        refine .inr (.inr (.inl ⟨hn, rfl, fun h => hn ?_⟩))
        have : bs ⟨(dz n).toArray⟩ = bs ⟨(dz n').toArray⟩ := congrArg bs h
        rw [bs_mk (dz n), bs_mk (dz n')] at this
        exact dz_inj this
  · have hk' : k' = 3 ∨ k' = 4 := by omega
    have z1 := (right34 hk' b).1
    have z2 := (right34 hk' b').1
    subst z1 z2
    by_cases hs : s = s'
    · exact .inl ⟨rfl, hs⟩
    · rw [numK_no (show bk = 3 ∨ bk = 4 by omega), conS_no hk', conS_no hk']
      exact .inr (.inr (.inr ⟨rfl, hs, rfl, hs⟩))
/-- cast on is cast at once -/
theorem widen_on {bk ck k n : Int} {s : ByteArray} (hk : 1 ≤ k) (h1 : k ≤ bk) (h2 : bk ≤ ck) (h3 : ck ≤ 4) : cN ck (cN bk n) = cN ck n ∧ cS ck bk (cN bk n) (cS bk k n s) = cS ck k n s := by
  unfold cN cS
  by_cases hc : ck = 1 ∨ ck = 2
  · rw [numK_yes hc, numK_yes (show bk = 1 ∨ bk = 2 by omega)]
    exact ⟨rfl, rfl⟩
  · rw [numK_no (show ck = 3 ∨ ck = 4 by omega)]
    refine ⟨rfl, ?_⟩
    show conS bk _ _ = conS k n s
    by_cases hb : bk = 1 ∨ bk = 2
    · rw [numK_yes hb, conS_yes hb, conS_yes (show k = 1 ∨ k = 2 by omega)]; rfl
    · rw [numK_no (show bk = 3 ∨ bk = 4 by omega), conS_no (show bk = 3 ∨ bk = 4 by omega)]; rfl
end Go.Proofs.YtlfjkbghgfljaaaDoor
