/-
  Texts that the proof needs, one behind the other: DtxLoose.
-/
import Derived.Test.YtebldfnocpcddaaGreatDoorPart14

/-
  The text of a change (layer 10): other blanks where one stands outside of quotes.
-/
namespace Go.Proofs.YtebldfnocpcddaaGreatDoor

/-- a text without a backslash with X behind each blank outside of quotes; and whether one is between quotes at the end -/
def lse (X : List UInt8) (q : Bool) : List UInt8 → List UInt8 × Bool
  | [] => ([], q)
  | c :: r => (c :: ((if c = 32 ∧ (if c = 34 then !q else q) = false then X else []) ++ (lse X (if c = 34 then !q else q) r).1), (lse X (if c = 34 then !q else q) r).2)
theorem lse_append (X : List UInt8) : ∀ (a b : List UInt8) (q : Bool), lse X q (a ++ b) = ((lse X q a).1 ++ (lse X (lse X q a).2 b).1, (lse X (lse X q a).2 b).2)
  | [], b, q => rfl
  | c :: r, b, q => by
    simp only [List.cons_append, lse, lse_append X r b]
    simp
/-- a text and its looser one, no quotes open -/
def LS (X a b : List UInt8) : Prop := lse X false a = (b, false)
theorem LS.nil (X : List UInt8) : LS X [] [] := rfl
theorem LS.append {X a b a' b' : List UInt8} (h : LS X a b) (h' : LS X a' b') : LS X (a ++ a') (b ++ b') := by
  unfold LS at *
  rw [lse_append, h]
  show (b ++ (lse X false a').1, (lse X false a').2) = _
  rw [h']
/-- no quote, no blank -/
theorem LS.quiet {X : List UInt8} : ∀ {w : List UInt8}, (∀ c ∈ w, c ≠ 34 ∧ c ≠ 32) → LS X w w
  | [], _ => rfl
  | c :: r, h => by
    have hc := h c (by simp)
    have ih : lse X false r = (r, false) := LS.quiet fun x hx => h x (by simp [hx])
    unfold LS lse
    rw [if_neg hc.1, ih, if_neg (fun e => hc.2 e.1)]; rfl
theorem LS.blank (X : List UInt8) : LS X [32] (32 :: X) := by
  unfold LS lse lse
  simp
theorem lse_in {X : List UInt8} : ∀ {w : List UInt8}, (∀ c ∈ w, c ≠ 34) → lse X true w = (w, true)
  | [], _ => rfl
  | c :: r, h => by
    have hc := h c (by simp)
    have ih : lse X true r = (r, true) := lse_in fun x hx => h x (by simp [hx])
    unfold lse
    rw [if_neg hc, ih, if_neg (fun e => by cases e.2)]; rfl
/-- between quotes nothing is changed -/
theorem LS.quoted {X w : List UInt8} (h : ∀ c ∈ w, c ≠ 34) : LS X (34 :: (w ++ [34])) (34 :: (w ++ [34])) := by
  unfold LS
  rw [show (34 : UInt8) :: (w ++ [34]) = [34] ++ (w ++ [34]) from rfl, lse_append, lse_append]
  have e1 : lse X false [34] = ([34], true) := rfl
  have e2 : lse X true [34] = ([34], false) := rfl
  rw [e1, lse_in h, e2]
theorem isN_q {c : UInt8} (h : isN c = true) : c ≠ 34 ∧ c ≠ 32 := ⟨fun e => by subst e; revert h; decide, fun e => by subst e; revert h; decide⟩
theorem LS.word {X w : List UInt8} (h : ∀ c ∈ w, isN c = true) : LS X w w := LS.quiet fun c hc => isN_q (h c hc)
theorem dz_q (n : Int) : ∀ c ∈ dz n, c ≠ 34 ∧ c ≠ 32 := fun c hc => by
  have hd : ∀ m : Nat, ∀ c ∈ dn m, isD c = true := fun m => (dn_can m).2.1
  have hq : ∀ x : UInt8, isD x = true → x ≠ 34 ∧ x ≠ 32 := fun x hx => ⟨fun e => by subst e; revert hx; decide, fun e => by subst e; revert hx; decide⟩
  by_cases hn : n < 0
  · rw [dz_neg hn] at hc
    rcases List.mem_cons.1 hc with rfl | hc
    · decide
    · exact hq c (hd _ c hc)
  · rw [dz_pos (by omega)] at hc
    exact hq c (hd _ c hc)
theorem LS.typ {X : List UInt8} (k m : Int) : LS X (prT k m) (prT k m) := by
  have hp : ∀ nm : List UInt8, (∀ c ∈ nm, isN c = true) → LS X (nm ++ (40 :: (dz m ++ [41]))) (nm ++ (40 :: (dz m ++ [41]))) := fun nm hn =>
    LS.append (LS.word hn) (LS.quiet fun c hc => by
      rcases List.mem_cons.1 hc with rfl | hc
      · decide
      · rcases List.mem_append.1 hc with hc | hc
        · exact dz_q m c hc
        · obtain rfl : c = 41 := by simpa using hc
          decide)
  unfold prT
  split
  · exact LS.word (by decide)
  · split
    · exact LS.word (by decide)
    · split
      · exact hp _ (by decide)
      · exact hp _ (by decide)
theorem qb_noq : ∀ {t : List UInt8}, (92 : UInt8) ∉ qb t → ∀ c ∈ qb t, c ≠ 34
  | [], _, c, hc => by simp [qb] at hc
  | a :: r, h, c, hc => by
    have e : qb (a :: r) = frm a ++ qb r := by simp [qb]
    rw [e] at h hc
    rcases List.mem_append.1 hc with hc | hc
    · unfold frm at h hc
      split at hc
      · rename_i ha
        rw [if_pos ha] at h
        exact absurd (by simp) h
      · rename_i ha
        rw [if_neg ha] at h
        split at hc
        · rename_i hb
          rw [if_pos hb] at h
          exact absurd (by simp) h
        · rename_i hb
          rw [if_neg hb] at h
          split at hc
          · rename_i hx
            rw [if_pos hx] at h
            exact absurd (by simp) h
          · obtain rfl : c = a := by simpa using hc
            intro e
            subst e
            exact ha (.inl rfl)
    · exact qb_noq (fun hm => h (List.mem_append.2 (.inr hm))) c hc
theorem hxs_noq : ∀ (t : List UInt8), ∀ c ∈ hxs t, c ≠ 34
  | [], c, hc => by simp [hxs] at hc
  | a :: r, c, hc => by
    rw [hxs_cons] at hc
    have h1 : a.toNat / 16 < 16 := by have := a.toNat_lt; omega
    have h2 : a.toNat % 16 < 16 := Nat.mod_lt _ (by decide)
    rcases List.mem_append.1 hc with hc | hc
    · unfold hp at hc
      simp at hc
      rcases hc with rfl | rfl
      · exact hexd_ne _ h1
      · exact hexd_ne _ h2
    · exact hxs_noq r c hc
theorem LS.val {X : List UInt8} {k n : Int} {t : List UInt8} (h : (92 : UInt8) ∉ prW k n t) : LS X (prW k n t) (prW k n t) := by
  unfold prW at *
  split
  · exact LS.quiet (dz_q n)
  · rename_i h1
    rw [if_neg h1] at h
    split
    · exact LS.append (LS.quiet (dz_q n)) (LS.word (by decide))
    · rename_i h2
      rw [if_neg h2] at h
      split
      · rename_i h3
        rw [if_pos h3] at h
        exact LS.quoted (qb_noq fun hm => h (by unfold qt; simp [hm]))
      · rename_i h3
        rw [if_neg h3] at h
        split
        · exact LS.append (a := [120]) (b := [120]) (LS.word (by decide)) (LS.quoted (hxs_noq t))
        · exact LS.word (by decide)
theorem mem_r {c : UInt8} {a b : List UInt8} (h : c ∉ a ++ b) : c ∉ a ∧ c ∉ b := ⟨fun e => h (List.mem_append.2 (.inl e)), fun e => h (List.mem_append.2 (.inr e))⟩
theorem LS.col {X r r' : List UInt8} {c : Cb} (hc : colOk c = true) (h : (92 : UInt8) ∉ colX [32] c r) (hr : LS X r r') : LS X (colX [32] c r) (colX (32 :: X) c r') := by
  unfold colOk at hc
  simp only [Bool.and_eq_true] at hc
  unfold colX at h ⊢
  have h1 := (mem_r (mem_r (mem_r (mem_r (mem_r h).2).2).2).2).1
  refine LS.append (LS.word (right_all hc.1)) (LS.append (LS.blank X) (LS.append (LS.typ _ _) (LS.append ?_ (LS.append ?_ hr))))
  · split
    · exact LS.append (LS.blank X) (LS.word (by decide))
    · exact LS.nil X
  · by_cases hk : c.dk = 0
    · rw [if_pos hk, if_pos hk]; exact LS.nil X
    · rw [if_neg hk] at h1
      rw [if_neg hk, if_neg hk]
      exact LS.append (LS.blank X) (LS.append (LS.word (by decide)) (LS.append (LS.blank X) (LS.val (mem_r (mem_r (mem_r h1).2).2).2)))
theorem colX_tail {c : UInt8} {B : List UInt8} {x : Cb} {r : List UInt8} (h : c ∉ colX B x r) : c ∉ r := by
  unfold colX at h
  exact (mem_r (mem_r (mem_r (mem_r (mem_r h).2).2).2).2).2
theorem LS.cons {X r r' : List UInt8} {c : UInt8} (hc : c ≠ 34 ∧ c ≠ 32) (hr : LS X r r') : LS X (c :: r) (c :: r') :=
  LS.append (a := [c]) (b := [c]) (LS.quiet fun x hx => by
    have e : x = c := by simpa using hx
    rw [e]; exact hc) hr
theorem LS.cols {X r r' : List UInt8} (hr : LS X r r') : ∀ {l : List Cb}, (∀ c ∈ l, colOk c = true) → (92 : UInt8) ∉ colsX [32] l r → LS X (colsX [32] l r) (colsX (32 :: X) l r')
  | [], _, _ => hr
  | [c], hc, h => LS.col (hc c (by simp)) h hr
  | c :: d :: q, hc, h => by
    have h2 : (92 : UInt8) ∉ 44 :: ([32] ++ colsX [32] (d :: q) r) := colX_tail h
    exact LS.col (hc c (by simp)) h (LS.cons (by decide) (LS.append (LS.blank X) (LS.cols hr (fun x hx => hc x (by simp at hx ⊢; exact .inr hx)) fun hm => h2 (by simp only [List.cons_append, List.nil_append, List.mem_cons]; exact .inr (.inr hm)))))
theorem LS.change {X : List UInt8} {d : Dp} (hc : canD d = true) (h : (92 : UInt8) ∉ dtx [32] d []) : LS X (dtx [32] d []) (dtx (32 :: X) d []) := by
  unfold canD at hc
  rw [Bool.and_eq_true, Bool.and_eq_true] at hc
  obtain ⟨hp, ht, hr⟩ := hc
  have hop := plainD_op hp
  have hw : ∀ o : Nat, ∀ c ∈ opT o, isN c = true := fun o => by
    by_cases ho : 1 ≤ o ∧ o ≤ 8
    · exact (opT_wrd ho).1.2
    · unfold opT
      split <;> first | omega | (intro c hc; simp at hc)
  unfold dtx at h ⊢
  have h1 := (mem_r (mem_r (mem_r h).2).2).2
  refine LS.append (LS.word (hw _)) (LS.append (LS.blank X) (LS.append (LS.word (right_all ht)) ?_))
  clear h hp
  rcases (show d.op = 1 ∨ d.op = 2 ∨ d.op = 3 ∨ d.op = 4 ∨ d.op = 5 ∨ d.op = 6 ∨ d.op = 7 ∨ d.op = 8 by omega) with e | e | e | e | e | e | e | e
  all_goals
    simp only [e] at h1 hr ⊢
    simp at h1 hr
  · obtain ⟨hcs, hk, _, _⟩ := hr
    exact LS.append (LS.blank X) (LS.cons (by decide) (LS.cols (LS.cons (by decide) (LS.append (LS.blank X) (LS.append (LS.word (by decide)) (LS.append (LS.blank X) (LS.append (LS.word (right_all hk)) (LS.nil X)))))) hcs (by simpa using h1)))
  · exact LS.nil X
  · exact LS.append (LS.blank X) (LS.append (LS.word (by decide)) (LS.append (LS.blank X) (LS.append (LS.word (right_all hr)) (LS.nil X))))
  · exact LS.append (LS.blank X) (LS.col (by unfold colOk; simp [hr]) h1 (LS.nil X))
  · exact LS.append (LS.blank X) (LS.append (LS.word (right_all hr)) (LS.nil X))
  · exact LS.append (LS.blank X) (LS.append (LS.word (right_all hr.1)) (LS.append (LS.blank X) (LS.append (LS.word (by decide)) (LS.append (LS.blank X) (LS.append (LS.word (right_all hr.2)) (LS.nil X))))))
  · exact LS.append (LS.blank X) (LS.append (LS.word (right_all hr.1)) (LS.append (LS.blank X) (LS.append (LS.typ _ _) (LS.nil X))))
  · exact LS.append (LS.blank X) (LS.append (LS.word (right_all hr.1)) (LS.append (LS.blank X) (LS.append (LS.val h1.2) (LS.nil X))))
/-- with other blanks it is parsed as it was -/
theorem pAll_loose {X b0 b1 : List UInt8} {d : Dp} (hX : Sp X) (hb0 : Sp b0) (hb1 : Sp b1) (hc : canD d = true) (h64 : -9223372036854775808 ≤ d.dn ∧ d.dn < 9223372036854775808) (hc64 : ∀ c ∈ d.cols, -9223372036854775808 ≤ c.dn ∧ c.dn < 9223372036854775808)
    (h : (92 : UInt8) ∉ dtx [32] d []) : pAll (b0 ++ ((lse X false (dtx [32] d [])).1 ++ b1)) = .ok d := by
  have e : (lse X false (dtx [32] d [])).1 = dtx (32 :: X) d [] := by rw [LS.change hc h]
  rw [e]
  have e2 : dtx (32 :: X) d [] ++ b1 = dtx (32 :: X) d b1 := by
    have hcols : ∀ (B : List UInt8) (l : List Cb) (r q : List UInt8), colsX B l r ++ q = colsX B l (r ++ q) := fun B l => by
      have hcol : ∀ (c : Cb) (r q : List UInt8), colX B c r ++ q = colX B c (r ++ q) := fun c r q => by unfold colX; simp only [List.append_assoc]
      induction l with
      | nil => intro r q; rfl
      | cons c l ih =>
        intro r q
        cases l with
        | nil => exact hcol c r q
        | cons d l =>
          show colX B c (44 :: (B ++ colsX B (d :: l) r)) ++ q = colX B c (44 :: (B ++ colsX B (d :: l) (r ++ q)))
          rw [hcol, List.cons_append, List.append_assoc, ih]
    have hcol : ∀ (B : List UInt8) (c : Cb) (r q : List UInt8), colX B c r ++ q = colX B c (r ++ q) := fun B c r q => by unfold colX; simp only [List.append_assoc]
    unfold dtx
    simp only [List.append_assoc]
    congr 3
    split
    · simp [hcols]
    · split
      · rfl
      · split
        · simp
        · split
          · rw [List.append_assoc, hcol]; rfl
          · split
            · simp
            · split
              · simp
              · split
                · simp
                · simp
  rw [e2]
  exact pAll_ok (fun c hc => by
    rcases List.mem_cons.1 hc with rfl | hc
    · decide
    · exact hX c hc) (by simp) hb0 hb1 hc h64 hc64
end Go.Proofs.YtebldfnocpcddaaGreatDoor
