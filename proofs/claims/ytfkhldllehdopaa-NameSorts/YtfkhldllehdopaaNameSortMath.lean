/-
  Rows of strings that rise, each once, plainly. It speaks of no program.
-/
import Derived.Test.YtfkhldllehdopaaNameMath
import Derived.Test.YtfkhldllehdopaaStrs
import Derived.Lib.SlicesCompact
namespace Go.Proofs.Ytfkhldllehdopaa

/-- the first stands ahead of the second -/
def ltB (a b : ByteArray) : Prop := ordN (bs a) (bs b) < 0
theorem ltB_irrefl (a : ByteArray) : ¬ ltB a a := by unfold ltB; rw [ordN_self]; decide
theorem ltB_trans {a b c : ByteArray} (h : ltB a b) (h2 : ltB b c) : ltB a c := ordN_trans h h2
theorem ltB_total {a b : ByteArray} (h : ¬ ltB a b) (hne : a ≠ b) : ltB b a := by
  unfold ltB at *
  have h1 := ordN_turn (bs a) (bs b)
  have h2 : ordN (bs a) (bs b) ≠ 0 := fun h3 => hne (bs_eq (ordN_zero h3))
  omega
theorem ltB_asymm {a b : ByteArray} (h : ltB a b) : ¬ ltB b a := fun h2 => ltB_irrefl a (ltB_trans h h2)
/-- rising, each once -/
def Rise (l : List ByteArray) : Prop := l.Pairwise ltB
/-- the strings of zs, rising, each once -/
def Srt (zs l : List ByteArray) : Prop := Rise l ∧ ∀ x, x ∈ l ↔ x ∈ zs
theorem rise_eq : ∀ {l m : List ByteArray}, Rise l → Rise m → (∀ x, x ∈ l ↔ x ∈ m) → l = m
  | [], [], _, _, _ => rfl
  | [], b :: m, _, _, h => by have := (h b).2 (by simp); simp at this
  | a :: l, [], _, _, h => by have := (h a).1 (by simp); simp at this
  | a :: l, b :: m, h1, h2, h => by
    obtain ⟨h3, h4⟩ := List.pairwise_cons.1 h1
    obtain ⟨h5, h6⟩ := List.pairwise_cons.1 h2
    have hab : a = b := by
      rcases List.mem_cons.1 ((h a).1 (by simp)) with e | e
      · exact e
      · rcases List.mem_cons.1 ((h b).2 (by simp)) with e2 | e2
        · exact e2.symm
        · exact absurd (h3 b e2) (ltB_asymm (h5 a e))
    subst hab
    have : l = m := by
      refine rise_eq h4 h6 fun x => ⟨fun hx => ?_, fun hx => ?_⟩
      · rcases List.mem_cons.1 ((h x).1 (List.mem_cons_of_mem _ hx)) with e | e
        · exact absurd (h3 x hx) (by rw [e]; exact ltB_irrefl _)
        · exact e
      · rcases List.mem_cons.1 ((h x).2 (List.mem_cons_of_mem _ hx)) with e | e
        · exact absurd (h5 x hx) (by rw [e]; exact ltB_irrefl _)
        · exact e
    rw [this]
theorem Srt.unique {zs l m : List ByteArray} (h : Srt zs l) (h2 : Srt zs m) : l = m := rise_eq h.1 h2.1 fun x => (h.2 x).trans (h2.2 x).symm

/-- the search for x's place has come to place k -/
def Ins (out : List ByteArray) (x : ByteArray) (k at' : Nat) (th : Bool) : Prop :=
  at' ≤ k ∧ (∀ j (h : j < out.length), j < at' → ltB out[j] x) ∧ (∀ j (h : j < out.length), at' ≤ j → j < k → ¬ ltB out[j] x) ∧ (th = true ↔ ∃ j, ∃ h : j < out.length, j < k ∧ out[j] = x)
theorem Ins.start (out : List ByteArray) (x : ByteArray) : Ins out x 0 0 false :=
  ⟨Nat.le_refl _, fun _ _ h => absurd h (by omega), fun _ _ _ h => absurd h (by omega), by simp⟩
theorem Ins.less {out : List ByteArray} {x : ByteArray} {k at' : Nat} {th : Bool} (hR : Rise out) (h : Ins out x k at' th) (hk : k < out.length) (hl : ltB out[k] x) : Ins out x (k + 1) (k + 1) th := by
  refine ⟨Nat.le_refl _, fun j hj h1 => ?_, fun j _ h1 h2 => absurd h2 (by omega), h.2.2.2.trans ⟨?_, ?_⟩⟩
  · by_cases e : j = k
    · subst e; exact hl
    · exact ltB_trans (List.pairwise_iff_getElem.1 hR j k hj hk (by omega)) hl
  · rintro ⟨j, h1, h2, h3⟩; exact ⟨j, h1, by omega, h3⟩
  · rintro ⟨j, h1, h2, h3⟩
    by_cases e : j = k
    · subst e; rw [h3] at hl; exact absurd hl (ltB_irrefl _)
    · exact ⟨j, h1, by omega, h3⟩
theorem Ins.not {out : List ByteArray} {x : ByteArray} {k at' : Nat} {th : Bool} (h : Ins out x k at' th) (hk : k < out.length) (hl : ¬ ltB out[k] x) (b : Bool) (hb : b = true ↔ th = true ∨ out[k] = x) : Ins out x (k + 1) at' b := by
  refine ⟨by have := h.1; omega, h.2.1, fun j hj h1 h2 => ?_, hb.trans ⟨?_, ?_⟩⟩
  · by_cases e : j = k
    · subst e; exact hl
    · exact h.2.2.1 j hj h1 (by omega)
  · rintro (h1 | h1)
    · obtain ⟨j, h2, h3, h4⟩ := h.2.2.2.1 h1; exact ⟨j, h2, by omega, h4⟩
    · exact ⟨k, hk, by omega, h1⟩
  · rintro ⟨j, h1, h2, h3⟩
    by_cases e : j = k
    · subst e; exact .inr h3
    · exact .inl (h.2.2.2.2 ⟨j, h1, by omega, h3⟩)
theorem Ins.there {out zs : List ByteArray} {x : ByteArray} {at' : Nat} {k : Nat} (h : Ins out x k at' true) (hS : Srt zs out) (zs' : List ByteArray) (hz : ∀ y, y ∈ zs' ↔ y ∈ zs ∨ y = x) : Srt zs' out := by
  refine ⟨hS.1, fun y => ?_⟩
  rw [hz, ← hS.2]
  constructor
  · exact .inl
  · rintro (h1 | h1)
    · exact h1
    · obtain ⟨j, h2, _, h4⟩ := h.2.2.2.1 rfl
      rw [h1, ← h4]; exact List.getElem_mem h2
theorem Ins.put {out zs : List ByteArray} {x : ByteArray} {at' : Nat} {k : Nat} (hk : k = out.length) (h : Ins out x k at' false) (hS : Srt zs out) (zs' : List ByteArray) (hz : ∀ y, y ∈ zs' ↔ y ∈ zs ∨ y = x) : Srt zs' (out.take at' ++ [x] ++ out.drop at') := by
  subst hk
  have hR := hS.1
  have hR2 := hR
  unfold Rise at hR2
  rw [← List.take_append_drop at' out] at hR2
  obtain ⟨h1, h2, h3⟩ := List.pairwise_append.1 hR2
  have hlow : ∀ y ∈ out.take at', ltB y x := fun y hy => by
    obtain ⟨j, hj, rfl⟩ := List.mem_iff_getElem.1 hy
    rw [List.getElem_take]
    simp at hj
    exact h.2.1 j (by omega) (by omega)
  have hhigh : ∀ y ∈ out.drop at', ltB x y := fun y hy => by
    obtain ⟨j, hj, rfl⟩ := List.mem_iff_getElem.1 hy
    rw [List.getElem_drop]
    simp at hj
    refine ltB_total (h.2.2.1 (at' + j) (by omega) (by omega) (by omega)) fun e => ?_
    have := h.2.2.2.2 ⟨at' + j, by omega, by omega, e⟩
    cases this
  refine ⟨?_, fun y => ?_⟩
  · show ((out.take at' ++ [x]) ++ out.drop at').Pairwise ltB
    rw [List.append_assoc]
    refine List.pairwise_append.2 ⟨h1, List.pairwise_append.2 ⟨List.pairwise_singleton _ _, h2, fun a ha b hb => ?_⟩, fun a ha b hb => ?_⟩
    · simp at ha; subst ha; exact hhigh b hb
    · rcases List.mem_append.1 hb with hb | hb
      · simp at hb; subst hb; exact hlow a ha
      · exact h3 a ha b hb
  · rw [hz, ← hS.2]
    have e : y ∈ out ↔ y ∈ out.take at' ∨ y ∈ out.drop at' := by rw [← List.mem_append, List.take_append_drop]
    rw [e]
    simp only [List.mem_append, List.mem_singleton]
    constructor
    · rintro ((a | a) | a)
      · exact .inl (.inl a)
      · exact .inr a
      · exact .inl (.inr a)
    · rintro ((a | a) | a)
      · exact .inl (.inl a)
      · exact .inr a
      · exact .inl (.inr a)

/-- slices.Compact of what never falls: rising, each once -/
theorem compact_upto (d : Array (List UInt8)) (hs : ∀ i j, i < j → j < d.size → ¬ ordN d[j]! d[i]! < 0) : ∀ m, m ≤ d.size →
    (Lib.compactUpTo d m).Pairwise (fun a b => ordN a b < 0) ∧ (∀ x, x ∈ Lib.compactUpTo d m ↔ ∃ j, j < m ∧ d[j]! = x) ∧ ∀ y ∈ Lib.compactUpTo d m, y = d[m - 1]! ∨ ordN y d[m - 1]! < 0
  | 0, _ => by
    have e : Lib.compactUpTo d 0 = [] := rfl
    rw [e]
    exact ⟨List.Pairwise.nil, by simp, by simp⟩
  | m + 1, hm => by
    obtain ⟨h1, h2, h3⟩ := compact_upto d hs m (by omega)
    rw [Lib.compactUpTo_succ]
    by_cases hk : Lib.keeps d m = true
    · rw [if_pos hk]
      have hlt : ∀ y ∈ Lib.compactUpTo d m, ordN y d[m]! < 0 := fun y hy => by
        obtain ⟨j, hj, _⟩ := (h2 y).1 hy
        have hne : d[m]! ≠ d[m - 1]! := by
          simp only [Lib.keeps, decide_eq_true_eq] at hk
          rcases hk with hk | hk
          · omega
          · exact hk
        have hl : ordN d[m - 1]! d[m]! < 0 := by
          have h4 := hs (m - 1) m (by omega) (by omega)
          have h5 := ordN_turn d[m]! d[m - 1]!
          have h6 : ordN d[m]! d[m - 1]! ≠ 0 := fun e => hne (ordN_zero e)
          omega
        rcases h3 y hy with e | e
        · rw [e]; exact hl
        · exact ordN_trans e hl
      refine ⟨List.pairwise_append.2 ⟨h1, List.pairwise_singleton _ _, fun a ha b hb => ?_⟩, fun x => ?_, fun y hy => ?_⟩
      · simp at hb; subst hb; exact hlt a ha
      · rw [List.mem_append, h2, List.mem_singleton]
        constructor
        · rintro (⟨j, hj, e⟩ | e)
          · exact ⟨j, by omega, e⟩
          · exact ⟨m, by omega, e.symm⟩
        · rintro ⟨j, hj, e⟩
          by_cases hjm : j = m
          · subst hjm; exact .inr e.symm
          · exact .inl ⟨j, by omega, e⟩
      · rw [Nat.add_sub_cancel]
        rcases List.mem_append.1 hy with hy | hy
        · exact .inr (hlt y hy)
        · simp at hy; exact .inl hy
    · have hk' : Lib.keeps d m = false := by simpa using hk
      rw [if_neg hk, List.append_nil]
      have hk2 : ¬ (m = 0) ∧ d[m]! = d[m - 1]! := by
        simp only [Lib.keeps, decide_eq_false_iff_not, not_or, ne_eq, Decidable.not_not] at hk'
        exact hk'
      refine ⟨h1, fun x => ?_, fun y hy => ?_⟩
      · rw [h2]
        constructor
        · rintro ⟨j, hj, e⟩; exact ⟨j, by omega, e⟩
        · rintro ⟨j, hj, e⟩
          by_cases hjm : j = m
          · subst hjm; exact ⟨j - 1, by omega, by rw [← hk2.2]; exact e⟩
          · exact ⟨j, by omega, e⟩
      · rw [Nat.add_sub_cancel, hk2.2]; exact h3 y hy
/-- strings of lists -/
def baL (l : List (List UInt8)) : List ByteArray := l.map fun x => ⟨x.toArray⟩
theorem compact_srt (ys : List (List UInt8)) (zs : List ByteArray) (hs : ∀ i j, i < j → j < ys.length → ¬ ordN ys.toArray[j]! ys.toArray[i]! < 0) (hm : ∀ x, x ∈ ys ↔ (⟨x.toArray⟩ : ByteArray) ∈ zs) : Srt zs (baL (Lib.compact ys)) := by
  obtain ⟨h1, h2, _⟩ := compact_upto ys.toArray (fun i j hi hj => hs i j hi (by simpa using hj)) ys.length (by simp)
  have h1' : (Lib.compact ys).Pairwise (fun a b => ordN a b < 0) := h1
  have h2' : ∀ x, x ∈ Lib.compact ys ↔ x ∈ ys := fun x => by
    refine (h2 x).trans ⟨?_, ?_⟩
    · rintro ⟨j, hj, e⟩
      rw [getElem!_pos _ j (by simpa using hj)] at e
      rw [← e]; simp
    · intro hx
      obtain ⟨j, hj, e⟩ := List.mem_iff_getElem.1 hx
      exact ⟨j, hj, by rw [getElem!_pos _ j (by simpa using hj)]; simpa using e⟩
  refine ⟨?_, fun x => ?_⟩
  · exact List.pairwise_map.2 (h1'.imp fun h => h)
  · constructor
    · intro hx
      obtain ⟨y, hy, rfl⟩ := List.mem_map.1 hx
      exact (hm y).1 ((h2' y).1 hy)
    · intro hx
      refine List.mem_map.2 ⟨bs x, (h2' _).2 ((hm _).2 ?_), ?_⟩
      · exact hx
      · rfl
end Go.Proofs.Ytfkhldllehdopaa
