/-
  The mathematics of layer utf: encodings of code points, what a row of bytes begins with, the code points of a row of bytes, its longest valid beginning.
-/
namespace Go.Proofs.YtbbdmphclnnejaaDoor

/-- is the number a code point? -/
def isP (n : Int) : Bool := decide (0 ≤ n ∧ n ≤ 1114111 ∧ (n < 55296 ∨ 57343 < n))
theorem isP_iff (n : Int) : isP n = true ↔ 0 ≤ n ∧ n ≤ 1114111 ∧ (n < 55296 ∨ 57343 < n) := by simp [isP]

/-- the byte of a number -/
def by8 (n : Nat) : UInt8 := UInt8.ofNat n
theorem by8_toNat (n : Nat) (h : n < 256) : (by8 n).toNat = n := by simp [by8]; omega
theorem by8_eq (b : UInt8) (n : Nat) (h : n = b.toNat) : by8 n = b := by subst h; simp [by8]

/-- the encoding of a number -/
def enc (n : Nat) : List UInt8 :=
  if n < 128 then [by8 n] else if n < 2048 then [by8 (192 + n / 64), by8 (128 + n % 64)]
  else if n < 65536 then [by8 (224 + n / 4096), by8 (128 + n / 64 % 64), by8 (128 + n % 64)]
  else [by8 (240 + n / 262144), by8 (128 + n / 4096 % 64), by8 (128 + n / 64 % 64), by8 (128 + n % 64)]
/-- its length -/
def esz (n : Nat) : Nat := if n < 128 then 1 else if n < 2048 then 2 else if n < 65536 then 3 else 4
theorem enc_length (n : Nat) : (enc n).length = esz n := by
  unfold enc esz
  repeat' split
  all_goals rfl
theorem esz_pos (n : Nat) : 1 ≤ esz n := by unfold esz; repeat' split
                                            all_goals omega
theorem esz_le (n : Nat) : esz n ≤ 4 := by unfold esz; repeat' split
                                           all_goals omega

/-- how many bytes an encoding has that begins with this byte -/
def sz (b : Nat) : Nat := if b < 128 then 1 else if b < 192 then 0 else if b < 224 then 2 else if b < 240 then 3 else if b < 248 then 4 else 0
def mark (k : Nat) : Nat := if k ≤ 1 then 0 else if k = 2 then 192 else if k = 3 then 224 else 240
def lst (k : Nat) : Nat := if k ≤ 1 then 0 else if k = 2 then 128 else if k = 3 then 2048 else 65536
/-- are all of them bytes behind the first one? -/
def isT (b : UInt8) : Bool := decide (128 ≤ b.toNat ∧ b.toNat < 192)
def tl (l : List UInt8) : Bool := l.all isT
def fld (n : Nat) (l : List UInt8) : Nat := l.foldl (fun a b => a * 64 + b.toNat % 64) n
/-- the code point that the bytes begin with, and the length of its encoding -/
def rd (l : List UInt8) : Option (Nat × Nat) :=
  match l with
  | [] => none
  | a :: t =>
    if sz a.toNat = 0 ∨ t.length + 1 < sz a.toNat then none
    else if tl (t.take (sz a.toNat - 1)) = false then none
    else if isP (fld (a.toNat - mark (sz a.toNat)) (t.take (sz a.toNat - 1)) : Nat) = true ∧ lst (sz a.toNat) ≤ fld (a.toNat - mark (sz a.toNat)) (t.take (sz a.toNat - 1))
      then some (fld (a.toNat - mark (sz a.toNat)) (t.take (sz a.toNat - 1)), sz a.toNat) else none

theorem rd_enc (n : Nat) (t : List UInt8) (h : isP n = true) : rd (enc n ++ t) = some (n, esz n) := by
  have h' := (isP_iff n).1 h
  unfold enc
  split
  · have e0 := by8_toNat n (by omega)
    have es : sz n = 1 := by unfold sz; rw [if_pos (by omega)]
    have ez : esz n = 1 := by unfold esz; rw [if_pos (by omega)]
    simp [rd, e0, es, ez, tl, fld, mark, lst, h]
  split
  · have e0 := by8_toNat (192 + n / 64) (by omega)
    have e1 := by8_toNat (128 + n % 64) (by omega)
    have es : sz (192 + n / 64) = 2 := by unfold sz; rw [if_neg (by omega), if_neg (by omega), if_pos (by omega)]
    have ez : esz n = 2 := by unfold esz; rw [if_neg (by omega), if_pos (by omega)]
    have hf : (192 + n / 64 - 192) * 64 + (128 + n % 64) % 64 = n := by omega
    have ht : isT (by8 (128 + n % 64)) = true := by simp [isT, e1]; omega
    simp only [rd, List.cons_append, List.nil_append, e0, es, ez, tl, fld, mark, lst, List.take_succ_cons, List.take_zero, List.all_cons, List.all_nil, List.foldl_cons, List.foldl_nil, e1, ht, Nat.reduceSub, Nat.reduceLeDiff, if_true, if_false, hf, h]
    rw [if_neg (by simp), if_neg (by simp), if_pos ⟨trivial, by omega⟩]
  split
  · have e0 := by8_toNat (224 + n / 4096) (by omega)
    have e1 := by8_toNat (128 + n / 64 % 64) (by omega)
    have e2 := by8_toNat (128 + n % 64) (by omega)
    have es : sz (224 + n / 4096) = 3 := by unfold sz; rw [if_neg (by omega), if_neg (by omega), if_neg (by omega), if_pos (by omega)]
    have ez : esz n = 3 := by unfold esz; rw [if_neg (by omega), if_neg (by omega), if_pos (by omega)]
    have hf : ((224 + n / 4096 - 224) * 64 + (128 + n / 64 % 64) % 64) * 64 + (128 + n % 64) % 64 = n := by omega
    have ht : isT (by8 (128 + n / 64 % 64)) = true := by simp [isT, e1]; omega
    have ht2 : isT (by8 (128 + n % 64)) = true := by simp [isT, e2]; omega
    simp only [rd, List.cons_append, List.nil_append, e0, es, ez, tl, fld, mark, lst, List.take_succ_cons, List.take_zero, List.all_cons, List.all_nil, List.foldl_cons, List.foldl_nil, e1, e2, ht, ht2, Nat.reduceSub, Nat.reduceLeDiff, if_false, if_true, Nat.reduceEqDiff, hf, h]
    rw [if_neg (by simp), if_neg (by simp), if_pos ⟨trivial, by omega⟩]
  · have e0 := by8_toNat (240 + n / 262144) (by omega)
    have e1 := by8_toNat (128 + n / 4096 % 64) (by omega)
    have e2 := by8_toNat (128 + n / 64 % 64) (by omega)
    have e3 := by8_toNat (128 + n % 64) (by omega)
    have es : sz (240 + n / 262144) = 4 := by unfold sz; rw [if_neg (by omega), if_neg (by omega), if_neg (by omega), if_neg (by omega), if_pos (by omega)]
    have ez : esz n = 4 := by unfold esz; rw [if_neg (by omega), if_neg (by omega), if_neg (by omega)]
    have hf : (((240 + n / 262144 - 240) * 64 + (128 + n / 4096 % 64) % 64) * 64 + (128 + n / 64 % 64) % 64) * 64 + (128 + n % 64) % 64 = n := by omega
    have ht : isT (by8 (128 + n / 4096 % 64)) = true := by simp [isT, e1]; omega
    have ht2 : isT (by8 (128 + n / 64 % 64)) = true := by simp [isT, e2]; omega
    have ht3 : isT (by8 (128 + n % 64)) = true := by simp [isT, e3]; omega
    simp only [rd, List.cons_append, List.nil_append, e0, es, ez, tl, fld, mark, lst, List.take_succ_cons, List.take_zero, List.all_cons, List.all_nil, List.foldl_cons, List.foldl_nil, e1, e2, e3, ht, ht2, ht3, Nat.reduceSub, Nat.reduceLeDiff, if_false, Nat.reduceEqDiff, hf, h]
    rw [if_neg (by simp), if_neg (by simp), if_pos ⟨trivial, by omega⟩]

theorem isT_iff (b : UInt8) : isT b = true ↔ 128 ≤ b.toNat ∧ b.toNat < 192 := by simp [isT]

/-- what a reading rests on -/
theorem rd_parts {l : List UInt8} {n k : Nat} (h : rd l = some (n, k)) : ∃ a t, l = a :: t ∧ sz a.toNat = k ∧ k ≠ 0 ∧ k ≤ t.length + 1 ∧ tl (t.take (k - 1)) = true ∧
    fld (a.toNat - mark k) (t.take (k - 1)) = n ∧ isP n = true ∧ lst k ≤ n := by
  unfold rd at h
  split at h
  · cases h
  · rename_i a t
    split at h
    · cases h
    rename_i h1
    split at h
    · cases h
    rename_i h2
    split at h
    · rename_i h3
      simp only [Option.some.injEq, Prod.mk.injEq] at h
      obtain ⟨h4, h5⟩ := h
      rw [h4, h5] at h3
      rw [h5] at h1 h2 h4
      exact ⟨a, t, rfl, h5, by omega, by omega, by simpa using h2, h4, h3.1, h3.2⟩
    · cases h

theorem sz_cases (b : Nat) : (sz b = 1 ∧ b < 128) ∨ (sz b = 0) ∨ (sz b = 2 ∧ 192 ≤ b ∧ b < 224) ∨ (sz b = 3 ∧ 224 ≤ b ∧ b < 240) ∨ (sz b = 4 ∧ 240 ≤ b ∧ b < 248) := by
  unfold sz
  repeat' split
  all_goals omega

theorem rd_some {l : List UInt8} {n k : Nat} (h : rd l = some (n, k)) : isP n = true ∧ k = esz n ∧ enc n = l.take k ∧ k ≤ l.length := by
  obtain ⟨a, t, rfl, h1, h2, h3, h4, h5, h6, h7⟩ := rd_parts h
  refine ⟨h6, ?_⟩
  have h6' := (isP_iff n).1 h6
  rcases sz_cases a.toNat with ⟨e, e'⟩ | e | ⟨e, e1, e2⟩ | ⟨e, e1, e2⟩ | ⟨e, e1, e2⟩
  · obtain rfl : k = 1 := by omega
    simp [fld, mark] at h5
    subst h5
    refine ⟨by unfold esz; rw [if_pos e'], ?_, by simp⟩
    unfold enc; rw [if_pos e']
    simp [by8]
  · omega
  · obtain rfl : k = 2 := by omega
    obtain ⟨b, t, rfl⟩ : ∃ b t', t = b :: t' := by cases t with
      | nil => simp at h3
      | cons b t => exact ⟨b, t, rfl⟩
    simp [fld, mark, tl, lst, isT_iff] at h4 h5 h7
    refine ⟨by unfold esz; rw [if_neg (by omega), if_pos (by omega)], ?_, by simp⟩
    unfold enc; rw [if_neg (by omega), if_pos (by omega), by8_eq a _ (by omega), by8_eq b _ (by omega)]
    simp
  · obtain rfl : k = 3 := by omega
    obtain ⟨b, c, t, rfl⟩ : ∃ b c t', t = b :: c :: t' := by cases t with
      | nil => simp at h3
      | cons b t => cases t with
        | nil => simp at h3
        | cons c t => exact ⟨b, c, t, rfl⟩
    simp [fld, mark, tl, lst, isT_iff] at h4 h5 h7
    refine ⟨by unfold esz; rw [if_neg (by omega), if_neg (by omega), if_pos (by omega)], ?_, by simp⟩
    unfold enc; rw [if_neg (by omega), if_neg (by omega), if_pos (by omega), by8_eq a _ (by omega), by8_eq b _ (by omega), by8_eq c _ (by omega)]
    simp
  · obtain rfl : k = 4 := by omega
    obtain ⟨b, c, d, t, rfl⟩ : ∃ b c d t', t = b :: c :: d :: t' := by cases t with
      | nil => simp at h3
      | cons b t => cases t with
        | nil => simp at h3
        | cons c t => cases t with
          | nil => simp at h3
          | cons d t => exact ⟨b, c, d, t, rfl⟩
    simp [fld, mark, tl, lst, isT_iff] at h4 h5 h7
    refine ⟨by unfold esz; rw [if_neg (by omega), if_neg (by omega), if_neg (by omega)], ?_, by simp⟩
    unfold enc; rw [if_neg (by omega), if_neg (by omega), if_neg (by omega), by8_eq a _ (by omega), by8_eq b _ (by omega), by8_eq c _ (by omega), by8_eq d _ (by omega)]
    simp

theorem rd_of_take {l : List UInt8} {n k : Nat} (hp : isP n = true) (h : enc n = l.take k) : rd l = some (n, esz n) := by
  have := rd_enc n (l.drop k) hp
  rwa [h, List.take_append_drop] at this
theorem rd_pos {l : List UInt8} {n k : Nat} (h : rd l = some (n, k)) : 1 ≤ k ∧ k ≤ 4 ∧ k ≤ l.length := by
  obtain ⟨_, h1, _, h3⟩ := rd_some h
  have := esz_pos n; have := esz_le n
  omega
/-- a beginning that ends too early is none -/
theorem rd_take {l : List UInt8} {n k j : Nat} (h : rd l = some (n, k)) (hj : j < k) : rd (l.take j) = none := by
  cases h2 : rd (l.take j) with
  | none => rfl
  | some p =>
    obtain ⟨m, i⟩ := p
    obtain ⟨h3, h4, h5, h6⟩ := rd_some h2
    have h7 := rd_of_take (k := min i j) h3 (by rw [h5, List.take_take])
    rw [h] at h7
    simp only [Option.some.injEq, Prod.mk.injEq] at h7
    rw [List.length_take] at h6
    omega

/-- the number as the document's reader reckons it -/
def cnd (n : Int) (l : List UInt8) : Int := l.foldl (fun a b => a * 64 + (b.toNat : Int) - 128) n
theorem cnd_fld (l : List UInt8) : ∀ n : Nat, tl l = true → cnd n l = (fld n l : Nat) := by
  induction l with
  | nil => intro n _; rfl
  | cons b l ih =>
    intro n h
    simp only [tl, List.all_cons, Bool.and_eq_true] at h
    have hb := (isT_iff b).1 h.1
    have e : (n : Int) * 64 + (b.toNat : Int) - 128 = ((n * 64 + b.toNat % 64 : Nat) : Int) := by omega
    show cnd ((n : Int) * 64 + (b.toNat : Int) - 128) l = _
    rw [e, ih _ h.2]
    rfl

/-- all code points of the bytes -/
def sg (l : List UInt8) : Option (List Nat) :=
  if l = [] then some [] else
    match _h : rd l with
    | none => none
    | some (n, k) => (sg (l.drop k)).map (n :: ·)
termination_by l.length
decreasing_by have := rd_pos _h; rw [List.length_drop]; omega

theorem sg_nil : sg [] = some [] := by unfold sg; simp
theorem sg_none {l : List UInt8} (h : rd l = none) (hl : l ≠ []) : sg l = none := by
  unfold sg
  rw [if_neg hl]
  split
  · rfl
  · rename_i h2; rw [h] at h2; cases h2
theorem sg_some {l : List UInt8} {n k : Nat} (h : rd l = some (n, k)) : sg l = (sg (l.drop k)).map (n :: ·) := by
  have hl : l ≠ [] := fun e => by subst e; cases h
  rw [sg, if_neg hl]
  split
  · rename_i h2; rw [h] at h2; cases h2
  · rename_i n' k' h2
    rw [h] at h2
    simp only [Option.some.injEq, Prod.mk.injEq] at h2
    rw [h2.1, h2.2]

/-- the bytes of code points -/
def text (ns : List Nat) : List UInt8 := ns.flatMap enc
theorem text_append (a b : List Nat) : text (a ++ b) = text a ++ text b := List.flatMap_append
def allP (ns : List Nat) : Prop := ∀ n ∈ ns, isP n = true

theorem sg_text (ns : List Nat) (h : allP ns) (t : List UInt8) : sg (text ns ++ t) = (sg t).map (ns ++ ·) := by
  induction ns with
  | nil => simp [text]
  | cons n ns ih =>
    have hp := h n (by simp)
    have e : text (n :: ns) ++ t = enc n ++ (text ns ++ t) := by simp [text]
    rw [e, sg_some (rd_enc n _ hp), ← enc_length n, List.drop_left, ih (fun m hm => h m (by simp [hm])), Option.map_map]
    rfl

theorem sg_back {l : List UInt8} {ns : List Nat} (h : sg l = some ns) : text ns = l ∧ allP ns := by
  induction ns generalizing l with
  | nil =>
    by_cases hl : l = []
    · subst hl; exact ⟨rfl, fun n hn => by cases hn⟩
    · cases h2 : rd l with
      | none => rw [sg_none h2 hl] at h; cases h
      | some p =>
        obtain ⟨n, k⟩ := p
        rw [sg_some h2] at h
        cases h3 : sg (l.drop k) with
        | none => rw [h3] at h; cases h
        | some x => rw [h3] at h; simp at h
  | cons m ns ih =>
    by_cases hl : l = []
    · subst hl; rw [sg_nil] at h; cases h
    · cases h2 : rd l with
      | none => rw [sg_none h2 hl] at h; cases h
      | some p =>
        obtain ⟨n, k⟩ := p
        rw [sg_some h2] at h
        cases h3 : sg (l.drop k) with
        | none => rw [h3] at h; cases h
        | some x =>
          rw [h3] at h
          simp only [Option.map_some, Option.some.injEq, List.cons.injEq] at h
          obtain ⟨rfl, rfl⟩ := h
          obtain ⟨h4, h5⟩ := ih h3
          obtain ⟨h6, _, h7, _⟩ := rd_some h2
          refine ⟨?_, fun q hq => ?_⟩
          · show enc n ++ text x = l
            rw [h4, h7, List.take_append_drop]
          · rcases List.mem_cons.1 hq with rfl | hq
            · exact h6
            · exact h5 q hq

/-- code points are no more than bytes -/
theorem text_length (ns : List Nat) : ns.length ≤ (text ns).length := by
  induction ns with
  | nil => simp
  | cons n ns ih =>
    have e : text (n :: ns) = enc n ++ text ns := by simp [text]
    have := esz_pos n
    rw [e, List.length_append, enc_length, List.length_cons]; omega
theorem text_length_le (ns : List Nat) : (text ns).length ≤ 4 * ns.length := by
  induction ns with
  | nil => simp [text]
  | cons n ns ih =>
    have e : text (n :: ns) = enc n ++ text ns := by simp [text]
    have := esz_le n
    rw [e, List.length_append, enc_length, List.length_cons]; omega

/-- what has been read of the bytes: the code points, and where they end -/
def Got (l : List UInt8) (ns : List Nat) (p : Nat) : Prop := text ns = l.take p ∧ allP ns ∧ p ≤ l.length
theorem Got.zero (l : List UInt8) : Got l [] 0 := ⟨by simp [text], (fun _ hn => by cases hn), by omega⟩
theorem Got.all {l : List UInt8} {ns : List Nat} {p : Nat} (h : Got l ns p) : sg l = (sg (l.drop p)).map (ns ++ ·) := by
  have := sg_text ns h.2.1 (l.drop p)
  rwa [h.1, List.take_append_drop] at this
theorem Got.len {l : List UInt8} {ns : List Nat} {p : Nat} (h : Got l ns p) : ns.length ≤ p := by
  have h1 := text_length ns
  have h2 := h.2.2
  rw [h.1, List.length_take] at h1; omega
theorem Got.more {l : List UInt8} {ns : List Nat} {p n k : Nat} (h : Got l ns p) (hr : rd (l.drop p) = some (n, k)) : Got l (ns ++ [n]) (p + k) := by
  obtain ⟨h1, h2, h3, h4⟩ := rd_some hr
  refine ⟨?_, fun m hm => ?_, ?_⟩
  · rw [text_append, h.1, show text [n] = enc n by simp [text], h3, List.take_add]
  · rcases List.mem_append.1 hm with hm | hm
    · exact h.2.1 m hm
    · simp at hm; subst hm; exact h1
  · rw [List.length_drop] at h4; have := h.2.2; omega
theorem Got.stop {l : List UInt8} {ns : List Nat} {p : Nat} (h : Got l ns p) (hp : p < l.length) (hr : rd (l.drop p) = none) : sg l = none := by
  rw [h.all, sg_none hr (fun e => by have := congrArg List.length e; rw [List.length_drop] at this; simp at this; omega)]; rfl
theorem Got.done {l : List UInt8} {ns : List Nat} (h : Got l ns l.length) : sg l = some ns := by
  rw [h.all, List.drop_length, sg_nil]; simp
theorem Got.right {l : List UInt8} {ns : List Nat} {p : Nat} (h : Got l ns p) : sg (l.take p) = some ns := by
  have := sg_text ns h.2.1 []
  rw [List.append_nil, h.1, sg_nil] at this
  simpa using this
/-- between two ends nothing ends -/
theorem Got.none {l : List UInt8} {ns : List Nat} {p n k j : Nat} (h : Got l ns p) (hr : rd (l.drop p) = some (n, k)) (h1 : p < j) (h2 : j < p + k) : sg (l.take j) = none := by
  have hl := (rd_pos hr).2.2
  rw [List.length_drop] at hl
  have e : l.take j = text ns ++ (l.drop p).take (j - p) := by
    rw [h.1, ← List.take_add]; congr 1; omega
  have hne : (l.drop p).take (j - p) ≠ [] := fun e => by
    have := congrArg List.length e
    rw [List.length_take, List.length_drop] at this; simp at this; omega
  rw [e, sg_text ns h.2.1, sg_none (rd_take hr (by omega)) hne]; rfl

/-- c is where the longest valid beginning of at most so many of the first p bytes ends -/
def CutAt (l : List UInt8) (most : Int) (p c : Nat) : Prop :=
  c ≤ p ∧ (c = 0 ∨ ((c : Int) ≤ most ∧ (sg (l.take c)).isSome = true)) ∧ ∀ j : Nat, c < j → j ≤ p → (j : Int) ≤ most → sg (l.take j) = none
theorem CutAt.uniq {l : List UInt8} {most : Int} {p c d : Nat} (h : CutAt l most p c) (h2 : CutAt l most p d) : c = d := by
  rcases Nat.lt_trichotomy c d with hlt | hlt | hlt
  · rcases h2.2.1 with h3 | ⟨h3, h4⟩
    · omega
    · rw [h.2.2 d hlt h2.1 h3] at h4; cases h4
  · exact hlt
  · rcases h.2.1 with h3 | ⟨h3, h4⟩
    · omega
    · rw [h2.2.2 c hlt h.1 h3] at h4; cases h4
theorem CutAt.zero (l : List UInt8) (most : Int) : CutAt l most 0 0 := ⟨Nat.le_refl _, .inl rfl, fun j h1 h2 => by omega⟩
theorem CutAt.yes {l : List UInt8} {ns : List Nat} {p : Nat} {most : Int} (hm : (p : Int) ≤ most) (h : Got l ns p) : CutAt l most p p :=
  ⟨Nat.le_refl _, .inr ⟨hm, by rw [h.right]; rfl⟩, fun j h1 h2 => by omega⟩
theorem CutAt.no {l : List UInt8} {ns : List Nat} {p n k c : Nat} {most : Int} (hc : CutAt l most p c) (hm : most < (p + k : Nat)) (h : Got l ns p) (hr : rd (l.drop p) = some (n, k)) : CutAt l most (p + k) c := by
  refine ⟨by have := hc.1; omega, hc.2.1, fun j h1 h2 h3 => ?_⟩
  by_cases hj : j ≤ p
  · exact hc.2.2 j h1 hj h3
  · exact h.none hr (by omega) (by omega)
end Go.Proofs.YtbbdmphclnnejaaDoor
