/-
  Texts that the proof needs, one behind the other: UtfMath, UtfNumC, UtfPutC, UtfReadC, UtfRefC, UtfRefReadC.
-/
import Derived.Laws.Bits128
import Derived.Deep.RegionWith
import Derived.BigQuiet
import Derived.Deep.QuietTactic
import Derived.WalkSmall
import Derived.Test.YtebldfnocpcddaaGreatDoorPart1

/-
  The mathematics of layer utf: encodings of code points, what a row of bytes begins with, the code points of a row of bytes, its longest valid beginning.
-/
namespace Go.Proofs.YtebldfnocpcddaaGreatDoor

/-- is the number a code point? -/
def isP (n : Int) : Bool := decide (0 ≤ n ∧ n ≤ 1114111 ∧ (n < 55296 ∨ 57343 < n))
theorem isP_iff (n : Int) : isP n = true ↔ 0 ≤ n ∧ n ≤ 1114111 ∧ (n < 55296 ∨ 57343 < n) := by simp [isP]

/-- the byte of a number -/
def by8 (n : Nat) : UInt8 := UInt8.ofNat n
theorem by8_toNat (n : Nat) (h : n < 256) : (by8 n).toNat = n := by simp [by8]; omega
theorem by8_eq (b : UInt8) (n : Nat) (h : n = b.toNat) : by8 n = b := by subst h; simp [by8]

/-- the encoding of a number -/
def enc (n : Nat) : List UInt8 :=
  if n < 128 then [by8 n] else if n < 2048 then [by8 (192 + n / 64), by8 (128 + n % 64)]
  else if n < 65536 then [by8 (224 + n / 4096), by8 (128 + n / 64 % 64), by8 (128 + n % 64)]
  else [by8 (240 + n / 262144), by8 (128 + n / 4096 % 64), by8 (128 + n / 64 % 64), by8 (128 + n % 64)]
/-- its length -/
def esz (n : Nat) : Nat := if n < 128 then 1 else if n < 2048 then 2 else if n < 65536 then 3 else 4
theorem enc_length (n : Nat) : (enc n).length = esz n := by
  unfold enc esz
  repeat' split
  all_goals rfl
theorem esz_pos (n : Nat) : 1 ≤ esz n := by unfold esz; repeat' split
                                            all_goals omega
theorem esz_le (n : Nat) : esz n ≤ 4 := by unfold esz; repeat' split
                                           all_goals omega

/-- how many bytes an encoding has that begins with this byte -/
def sz (b : Nat) : Nat := if b < 128 then 1 else if b < 192 then 0 else if b < 224 then 2 else if b < 240 then 3 else if b < 248 then 4 else 0
def mark (k : Nat) : Nat := if k ≤ 1 then 0 else if k = 2 then 192 else if k = 3 then 224 else 240
def lst (k : Nat) : Nat := if k ≤ 1 then 0 else if k = 2 then 128 else if k = 3 then 2048 else 65536
/-- are all of them bytes behind the first one? -/
def isT (b : UInt8) : Bool := decide (128 ≤ b.toNat ∧ b.toNat < 192)
def tl (l : List UInt8) : Bool := l.all isT
def fld (n : Nat) (l : List UInt8) : Nat := l.foldl (fun a b => a * 64 + b.toNat % 64) n
/-- the code point that the bytes begin with, and the length of its encoding -/
def rd (l : List UInt8) : Option (Nat × Nat) :=
  match l with
  | [] => none
  | a :: t =>
    if sz a.toNat = 0 ∨ t.length + 1 < sz a.toNat then none
    else if tl (t.take (sz a.toNat - 1)) = false then none
    else if isP (fld (a.toNat - mark (sz a.toNat)) (t.take (sz a.toNat - 1)) : Nat) = true ∧ lst (sz a.toNat) ≤ fld (a.toNat - mark (sz a.toNat)) (t.take (sz a.toNat - 1))
      then some (fld (a.toNat - mark (sz a.toNat)) (t.take (sz a.toNat - 1)), sz a.toNat) else none

theorem rd_enc (n : Nat) (t : List UInt8) (h : isP n = true) : rd (enc n ++ t) = some (n, esz n) := by
  have h' := (isP_iff n).1 h
  unfold enc
  split
  · have e0 := by8_toNat n (by omega)
    have es : sz n = 1 := by unfold sz; rw [if_pos (by omega)]
    have ez : esz n = 1 := by unfold esz; rw [if_pos (by omega)]
    simp [rd, e0, es, ez, tl, fld, mark, lst, h]
  split
  · have e0 := by8_toNat (192 + n / 64) (by omega)
    have e1 := by8_toNat (128 + n % 64) (by omega)
    have es : sz (192 + n / 64) = 2 := by unfold sz; rw [if_neg (by omega), if_neg (by omega), if_pos (by omega)]
    have ez : esz n = 2 := by unfold esz; rw [if_neg (by omega), if_pos (by omega)]
    have hf : (192 + n / 64 - 192) * 64 + (128 + n % 64) % 64 = n := by omega
    have ht : isT (by8 (128 + n % 64)) = true := by simp [isT, e1]; omega
    simp only [rd, List.cons_append, List.nil_append, e0, es, ez, tl, fld, mark, lst, List.take_succ_cons, List.take_zero, List.all_cons, List.all_nil, List.foldl_cons, List.foldl_nil, e1, ht, Nat.reduceSub, Nat.reduceLeDiff, if_true, if_false, hf, h]
    rw [if_neg (by simp), if_neg (by simp), if_pos ⟨trivial, by omega⟩]
  split
  · have e0 := by8_toNat (224 + n / 4096) (by omega)
    have e1 := by8_toNat (128 + n / 64 % 64) (by omega)
    have e2 := by8_toNat (128 + n % 64) (by omega)
    have es : sz (224 + n / 4096) = 3 := by unfold sz; rw [if_neg (by omega), if_neg (by omega), if_neg (by omega), if_pos (by omega)]
    have ez : esz n = 3 := by unfold esz; rw [if_neg (by omega), if_neg (by omega), if_pos (by omega)]
    have hf : ((224 + n / 4096 - 224) * 64 + (128 + n / 64 % 64) % 64) * 64 + (128 + n % 64) % 64 = n := by omega
    have ht : isT (by8 (128 + n / 64 % 64)) = true := by simp [isT, e1]; omega
    have ht2 : isT (by8 (128 + n % 64)) = true := by simp [isT, e2]; omega
    simp only [rd, List.cons_append, List.nil_append, e0, es, ez, tl, fld, mark, lst, List.take_succ_cons, List.take_zero, List.all_cons, List.all_nil, List.foldl_cons, List.foldl_nil, e1, e2, ht, ht2, Nat.reduceSub, Nat.reduceLeDiff, if_false, if_true, Nat.reduceEqDiff, hf, h]
    rw [if_neg (by simp), if_neg (by simp), if_pos ⟨trivial, by omega⟩]
  · have e0 := by8_toNat (240 + n / 262144) (by omega)
    have e1 := by8_toNat (128 + n / 4096 % 64) (by omega)
    have e2 := by8_toNat (128 + n / 64 % 64) (by omega)
    have e3 := by8_toNat (128 + n % 64) (by omega)
    have es : sz (240 + n / 262144) = 4 := by unfold sz; rw [if_neg (by omega), if_neg (by omega), if_neg (by omega), if_neg (by omega), if_pos (by omega)]
    have ez : esz n = 4 := by unfold esz; rw [if_neg (by omega), if_neg (by omega), if_neg (by omega)]
    have hf : (((240 + n / 262144 - 240) * 64 + (128 + n / 4096 % 64) % 64) * 64 + (128 + n / 64 % 64) % 64) * 64 + (128 + n % 64) % 64 = n := by omega
    have ht : isT (by8 (128 + n / 4096 % 64)) = true := by simp [isT, e1]; omega
    have ht2 : isT (by8 (128 + n / 64 % 64)) = true := by simp [isT, e2]; omega
    have ht3 : isT (by8 (128 + n % 64)) = true := by simp [isT, e3]; omega
    simp only [rd, List.cons_append, List.nil_append, e0, es, ez, tl, fld, mark, lst, List.take_succ_cons, List.take_zero, List.all_cons, List.all_nil, List.foldl_cons, List.foldl_nil, e1, e2, e3, ht, ht2, ht3, Nat.reduceSub, Nat.reduceLeDiff, if_false, Nat.reduceEqDiff, hf, h]
    rw [if_neg (by simp), if_neg (by simp), if_pos ⟨trivial, by omega⟩]

theorem isT_iff (b : UInt8) : isT b = true ↔ 128 ≤ b.toNat ∧ b.toNat < 192 := by simp [isT]

/-- what a reading rests on -/
theorem rd_parts {l : List UInt8} {n k : Nat} (h : rd l = some (n, k)) : ∃ a t, l = a :: t ∧ sz a.toNat = k ∧ k ≠ 0 ∧ k ≤ t.length + 1 ∧ tl (t.take (k - 1)) = true ∧
    fld (a.toNat - mark k) (t.take (k - 1)) = n ∧ isP n = true ∧ lst k ≤ n := by
  unfold rd at h
  split at h
  · cases h
  · rename_i a t
    split at h
    · cases h
    rename_i h1
    split at h
    · cases h
    rename_i h2
    split at h
    · rename_i h3
      simp only [Option.some.injEq, Prod.mk.injEq] at h
      obtain ⟨h4, h5⟩ := h
      rw [h4, h5] at h3
      rw [h5] at h1 h2 h4
      exact ⟨a, t, rfl, h5, by omega, by omega, by simpa using h2, h4, h3.1, h3.2⟩
    · cases h

theorem sz_cases (b : Nat) : (sz b = 1 ∧ b < 128) ∨ (sz b = 0) ∨ (sz b = 2 ∧ 192 ≤ b ∧ b < 224) ∨ (sz b = 3 ∧ 224 ≤ b ∧ b < 240) ∨ (sz b = 4 ∧ 240 ≤ b ∧ b < 248) := by
  unfold sz
  repeat' split
  all_goals omega

theorem rd_some {l : List UInt8} {n k : Nat} (h : rd l = some (n, k)) : isP n = true ∧ k = esz n ∧ enc n = l.take k ∧ k ≤ l.length := by
  obtain ⟨a, t, rfl, h1, h2, h3, h4, h5, h6, h7⟩ := rd_parts h
  refine ⟨h6, ?_⟩
  have h6' := (isP_iff n).1 h6
  rcases sz_cases a.toNat with ⟨e, e'⟩ | e | ⟨e, e1, e2⟩ | ⟨e, e1, e2⟩ | ⟨e, e1, e2⟩
  · obtain rfl : k = 1 := by omega
    simp [fld, mark] at h5
    subst h5
    refine ⟨by unfold esz; rw [if_pos e'], ?_, by simp⟩
    unfold enc; rw [if_pos e']
    simp [by8]
  · omega
  · obtain rfl : k = 2 := by omega
    obtain ⟨b, t, rfl⟩ : ∃ b t', t = b :: t' := by cases t with
      | nil => simp at h3
      | cons b t => exact ⟨b, t, rfl⟩
    simp [fld, mark, tl, lst, isT_iff] at h4 h5 h7
    refine ⟨by unfold esz; rw [if_neg (by omega), if_pos (by omega)], ?_, by simp⟩
    unfold enc; rw [if_neg (by omega), if_pos (by omega), by8_eq a _ (by omega), by8_eq b _ (by omega)]
    simp
  · obtain rfl : k = 3 := by omega
    obtain ⟨b, c, t, rfl⟩ : ∃ b c t', t = b :: c :: t' := by cases t with
      | nil => simp at h3
      | cons b t => cases t with
        | nil => simp at h3
        | cons c t => exact ⟨b, c, t, rfl⟩
    simp [fld, mark, tl, lst, isT_iff] at h4 h5 h7
    refine ⟨by unfold esz; rw [if_neg (by omega), if_neg (by omega), if_pos (by omega)], ?_, by simp⟩
    unfold enc; rw [if_neg (by omega), if_neg (by omega), if_pos (by omega), by8_eq a _ (by omega), by8_eq b _ (by omega), by8_eq c _ (by omega)]
    simp
  · obtain rfl : k = 4 := by omega
    obtain ⟨b, c, d, t, rfl⟩ : ∃ b c d t', t = b :: c :: d :: t' := by cases t with
      | nil => simp at h3
      | cons b t => cases t with
        | nil => simp at h3
        | cons c t => cases t with
          | nil => simp at h3
          | cons d t => exact ⟨b, c, d, t, rfl⟩
    simp [fld, mark, tl, lst, isT_iff] at h4 h5 h7
    refine ⟨by unfold esz; rw [if_neg (by omega), if_neg (by omega), if_neg (by omega)], ?_, by simp⟩
    unfold enc; rw [if_neg (by omega), if_neg (by omega), if_neg (by omega), by8_eq a _ (by omega), by8_eq b _ (by omega), by8_eq c _ (by omega), by8_eq d _ (by omega)]
    simp

theorem rd_of_take {l : List UInt8} {n k : Nat} (hp : isP n = true) (h : enc n = l.take k) : rd l = some (n, esz n) := by
  have := rd_enc n (l.drop k) hp
  rwa [h, List.take_append_drop] at this
theorem rd_pos {l : List UInt8} {n k : Nat} (h : rd l = some (n, k)) : 1 ≤ k ∧ k ≤ 4 ∧ k ≤ l.length := by
  obtain ⟨_, h1, _, h3⟩ := rd_some h
  have := esz_pos n; have := esz_le n
  omega
/-- a beginning that ends too early is none -/
theorem rd_take {l : List UInt8} {n k j : Nat} (h : rd l = some (n, k)) (hj : j < k) : rd (l.take j) = none := by
  cases h2 : rd (l.take j) with
  | none => rfl
  | some p =>
    obtain ⟨m, i⟩ := p
    obtain ⟨h3, h4, h5, h6⟩ := rd_some h2
    have h7 := rd_of_take (k := min i j) h3 (by rw [h5, List.take_take])
    rw [h] at h7
    simp only [Option.some.injEq, Prod.mk.injEq] at h7
    rw [List.length_take] at h6
    omega

/-- the number as the document's reader reckons it -/
def cnd (n : Int) (l : List UInt8) : Int := l.foldl (fun a b => a * 64 + (b.toNat : Int) - 128) n
theorem cnd_fld (l : List UInt8) : ∀ n : Nat, tl l = true → cnd n l = (fld n l : Nat) := by
  induction l with
  | nil => intro n _; rfl
  | cons b l ih =>
    intro n h
    simp only [tl, List.all_cons, Bool.and_eq_true] at h
    have hb := (isT_iff b).1 h.1
    have e : (n : Int) * 64 + (b.toNat : Int) - 128 = ((n * 64 + b.toNat % 64 : Nat) : Int) := by omega
    show cnd ((n : Int) * 64 + (b.toNat : Int) - 128) l = _
    rw [e, ih _ h.2]
    rfl

/-- all code points of the bytes -/
def sg (l : List UInt8) : Option (List Nat) :=
  if l = [] then some [] else
    match _h : rd l with
    | none => none
    | some (n, k) => (sg (l.drop k)).map (n :: ·)
termination_by l.length
decreasing_by have := rd_pos _h; rw [List.length_drop]; omega

theorem sg_nil : sg [] = some [] := by unfold sg; simp
theorem sg_none {l : List UInt8} (h : rd l = none) (hl : l ≠ []) : sg l = none := by
  unfold sg
  rw [if_neg hl]
  split
  · rfl
  · rename_i h2; rw [h] at h2; cases h2
theorem sg_some {l : List UInt8} {n k : Nat} (h : rd l = some (n, k)) : sg l = (sg (l.drop k)).map (n :: ·) := by
  have hl : l ≠ [] := fun e => by subst e; cases h
  rw [sg, if_neg hl]
  split
  · rename_i h2; rw [h] at h2; cases h2
  · rename_i n' k' h2
    rw [h] at h2
    simp only [Option.some.injEq, Prod.mk.injEq] at h2
    rw [h2.1, h2.2]

/-- the bytes of code points -/
def text (ns : List Nat) : List UInt8 := ns.flatMap enc
theorem text_append (a b : List Nat) : text (a ++ b) = text a ++ text b := List.flatMap_append
def allP (ns : List Nat) : Prop := ∀ n ∈ ns, isP n = true

theorem sg_text (ns : List Nat) (h : allP ns) (t : List UInt8) : sg (text ns ++ t) = (sg t).map (ns ++ ·) := by
  induction ns with
  | nil => simp [text]
  | cons n ns ih =>
    have hp := h n (by simp)
    have e : text (n :: ns) ++ t = enc n ++ (text ns ++ t) := by simp [text]
    rw [e, sg_some (rd_enc n _ hp), ← enc_length n, List.drop_left, ih (fun m hm => h m (by simp [hm])), Option.map_map]
    rfl

theorem sg_back {l : List UInt8} {ns : List Nat} (h : sg l = some ns) : text ns = l ∧ allP ns := by
  induction ns generalizing l with
  | nil =>
    by_cases hl : l = []
    · subst hl; exact ⟨rfl, fun n hn => by cases hn⟩
    · cases h2 : rd l with
      | none => rw [sg_none h2 hl] at h; cases h
      | some p =>
        obtain ⟨n, k⟩ := p
        rw [sg_some h2] at h
        cases h3 : sg (l.drop k) with
        | none => rw [h3] at h; cases h
        | some x => rw [h3] at h; simp at h
  | cons m ns ih =>
    by_cases hl : l = []
    · subst hl; rw [sg_nil] at h; cases h
    · cases h2 : rd l with
      | none => rw [sg_none h2 hl] at h; cases h
      | some p =>
        obtain ⟨n, k⟩ := p
        rw [sg_some h2] at h
        cases h3 : sg (l.drop k) with
        | none => rw [h3] at h; cases h
        | some x =>
          rw [h3] at h
          simp only [Option.map_some, Option.some.injEq, List.cons.injEq] at h
          obtain ⟨rfl, rfl⟩ := h
          obtain ⟨h4, h5⟩ := ih h3
          obtain ⟨h6, _, h7, _⟩ := rd_some h2
          refine ⟨?_, fun q hq => ?_⟩
          · show enc n ++ text x = l
            rw [h4, h7, List.take_append_drop]
          · rcases List.mem_cons.1 hq with rfl | hq
            · exact h6
            · exact h5 q hq

/-- code points are no more than bytes -/
theorem text_length (ns : List Nat) : ns.length ≤ (text ns).length := by
  induction ns with
  | nil => simp
  | cons n ns ih =>
    have e : text (n :: ns) = enc n ++ text ns := by simp [text]
    have := esz_pos n
    rw [e, List.length_append, enc_length, List.length_cons]; omega
theorem text_length_le (ns : List Nat) : (text ns).length ≤ 4 * ns.length := by
  induction ns with
  | nil => simp [text]
  | cons n ns ih =>
    have e : text (n :: ns) = enc n ++ text ns := by simp [text]
    have := esz_le n
    rw [e, List.length_append, enc_length, List.length_cons]; omega

/-- what has been read of the bytes: the code points, and where they end -/
def Got (l : List UInt8) (ns : List Nat) (p : Nat) : Prop := text ns = l.take p ∧ allP ns ∧ p ≤ l.length
theorem Got.zero (l : List UInt8) : Got l [] 0 := ⟨by simp [text], (fun _ hn => by cases hn), by omega⟩
theorem Got.all {l : List UInt8} {ns : List Nat} {p : Nat} (h : Got l ns p) : sg l = (sg (l.drop p)).map (ns ++ ·) := by
  have := sg_text ns h.2.1 (l.drop p)
  rwa [h.1, List.take_append_drop] at this
theorem Got.len {l : List UInt8} {ns : List Nat} {p : Nat} (h : Got l ns p) : ns.length ≤ p := by
  have h1 := text_length ns
  have h2 := h.2.2
  rw [h.1, List.length_take] at h1; omega
theorem Got.more {l : List UInt8} {ns : List Nat} {p n k : Nat} (h : Got l ns p) (hr : rd (l.drop p) = some (n, k)) : Got l (ns ++ [n]) (p + k) := by
  obtain ⟨h1, h2, h3, h4⟩ := rd_some hr
  refine ⟨?_, fun m hm => ?_, ?_⟩
  · rw [text_append, h.1, show text [n] = enc n by simp [text], h3, List.take_add]
  · rcases List.mem_append.1 hm with hm | hm
    · exact h.2.1 m hm
    · simp at hm; subst hm; exact h1
  · rw [List.length_drop] at h4; have := h.2.2; omega
theorem Got.stop {l : List UInt8} {ns : List Nat} {p : Nat} (h : Got l ns p) (hp : p < l.length) (hr : rd (l.drop p) = none) : sg l = none := by
  rw [h.all, sg_none hr (fun e => by have := congrArg List.length e; rw [List.length_drop] at this; simp at this; omega)]; rfl
theorem Got.done {l : List UInt8} {ns : List Nat} (h : Got l ns l.length) : sg l = some ns := by
  rw [h.all, List.drop_length, sg_nil]; simp
theorem Got.right {l : List UInt8} {ns : List Nat} {p : Nat} (h : Got l ns p) : sg (l.take p) = some ns := by
  have := sg_text ns h.2.1 []
  rw [List.append_nil, h.1, sg_nil] at this
  simpa using this
/-- between two ends nothing ends -/
theorem Got.none {l : List UInt8} {ns : List Nat} {p n k j : Nat} (h : Got l ns p) (hr : rd (l.drop p) = some (n, k)) (h1 : p < j) (h2 : j < p + k) : sg (l.take j) = none := by
  have hl := (rd_pos hr).2.2
  rw [List.length_drop] at hl
  have e : l.take j = text ns ++ (l.drop p).take (j - p) := by
    rw [h.1, ← List.take_add]; congr 1; omega
  have hne : (l.drop p).take (j - p) ≠ [] := fun e => by
    have := congrArg List.length e
    rw [List.length_take, List.length_drop] at this; simp at this; omega
  rw [e, sg_text ns h.2.1, sg_none (rd_take hr (by omega)) hne]; rfl

/-- c is where the longest valid beginning of at most so many of the first p bytes ends -/
def CutAt (l : List UInt8) (most : Int) (p c : Nat) : Prop :=
  c ≤ p ∧ (c = 0 ∨ ((c : Int) ≤ most ∧ (sg (l.take c)).isSome = true)) ∧ ∀ j : Nat, c < j → j ≤ p → (j : Int) ≤ most → sg (l.take j) = none
theorem CutAt.uniq {l : List UInt8} {most : Int} {p c d : Nat} (h : CutAt l most p c) (h2 : CutAt l most p d) : c = d := by
  rcases Nat.lt_trichotomy c d with hlt | hlt | hlt
  · rcases h2.2.1 with h3 | ⟨h3, h4⟩
    · omega
    · rw [h.2.2 d hlt h2.1 h3] at h4; cases h4
  · exact hlt
  · rcases h.2.1 with h3 | ⟨h3, h4⟩
    · omega
    · rw [h2.2.2 c hlt h.1 h3] at h4; cases h4
theorem CutAt.zero (l : List UInt8) (most : Int) : CutAt l most 0 0 := ⟨Nat.le_refl _, .inl rfl, fun j h1 h2 => by omega⟩
theorem CutAt.yes {l : List UInt8} {ns : List Nat} {p : Nat} {most : Int} (hm : (p : Int) ≤ most) (h : Got l ns p) : CutAt l most p p :=
  ⟨Nat.le_refl _, .inr ⟨hm, by rw [h.right]; rfl⟩, fun j h1 h2 => by omega⟩
theorem CutAt.no {l : List UInt8} {ns : List Nat} {p n k c : Nat} {most : Int} (hc : CutAt l most p c) (hm : most < (p + k : Nat)) (h : Got l ns p) (hr : rd (l.drop p) = some (n, k)) : CutAt l most (p + k) c := by
  refine ⟨by have := hc.1; omega, hc.2.1, fun j h1 h2 h3 => ?_⟩
  by_cases hj : j ≤ p
  · exact hc.2.2 j h1 hj h3
  · exact h.none hr (by omega) (by omega)
end Go.Proofs.YtebldfnocpcddaaGreatDoor

/-
  Contracts of package utf on one code point: isCodePoint, sizeOf, sizeAfter, Put, Read; the two tables.
-/
namespace Go.Proofs.YtebldfnocpcddaaGreatDoor
open Go.RowKit

/-- the two tables lie in their variables -/
def UTab (w : World) : Prop := (∀ i : Nat, i < 4 → w.cell? ⟨5, i, none⟩ = some (.int .i64 ((mark (i + 1) : Nat) : Int))) ∧ ∀ i : Nat, i < 4 → w.cell? ⟨6, i, none⟩ = some (.int .i64 ((lst (i + 1) : Nat) : Int))
theorem UTab.pos {w : World} (h : UTab w) : 5 < w.heap.size ∧ 6 < w.heap.size := ⟨World.block_lt_of_cell? w ⟨5, 0, none⟩ (h.1 0 (by omega)), World.block_lt_of_cell? w ⟨6, 0, none⟩ (h.2 0 (by omega))⟩
theorem UTab.below {w w' : World} {B : Nat} (h : UTab w) (hb : Below B w w') (hB : w.heap.size ≤ B) : UTab w' :=
  ⟨fun i hi => (hb.cell (p := ⟨5, i, none⟩) (Nat.lt_of_lt_of_le h.pos.1 hB)).trans (h.1 i hi), fun i hi => (hb.cell (p := ⟨6, i, none⟩) (Nat.lt_of_lt_of_le h.pos.2 hB)).trans (h.2 i hi)⟩
theorem UTab.alloc {w : World} (h : UTab w) (o : Obj) : UTab (w.alloc o) := h.below ((Below.refl _ _).alloc (Nat.le_refl _) o) (Nat.le_refl _)
theorem UTab.drew {w : World} (h : UTab w) : UTab w.drew := h.below (Below.refl w.heap.size _).drew (Nat.le_refl _)

set_option maxHeartbeats 400000 in
theorem isCode_any (n : Int) (w : World) : Calls Tryz.prog 166 #[.int .i64 n] w fun e w' => e = .returned (.bool (isP n)) ∧ w = w' := by
  have Hp := Lib.hid (isP_iff n)
  have Hb : Hid (isP n = false ↔ ¬ (0 ≤ n ∧ n ≤ 1114111 ∧ (n < 55296 ∨ 57343 < n))) := by show _ ↔ _; simp [isP]
  rcases (show n < 0 ∨ (0 ≤ n ∧ n < 55296) ∨ (55296 ≤ n ∧ n ≤ 57343) ∨ (57343 < n ∧ n ≤ 1114111) ∨ 1114111 < n by omega) with h | ⟨h, h2⟩ | ⟨h, h2⟩ | ⟨h, h2⟩ | h
  · have d1 : decide (55296 ≤ n) = false := by simp; omega
    have d2 : decide (0 ≤ n) = false := by simp; omega
    go_enter Tryz.func166, Tryz.ntmps166
    go_wp2
    go_ret
    exact ⟨by rw [Hb.out.2 (by omega)]; rfl, rfl⟩
  · have d1 : decide (55296 ≤ n) = false := by simp; omega
    have d2 : decide (0 ≤ n) = true := by simp; omega
    have d3 : decide (n ≤ 1114111) = true := by simp; omega
    go_enter Tryz.func166, Tryz.ntmps166
    go_wp2
    go_ret
    exact ⟨by rw [Hp.out.2 (by omega)]; rfl, rfl⟩
  · have d1 : decide (55296 ≤ n) = true := by simp; omega
    have d2 : decide (n ≤ 57343) = true := by simp; omega
    go_enter Tryz.func166, Tryz.ntmps166
    go_wp2
    go_ret
    exact ⟨by rw [Hb.out.2 (by omega)]; rfl, rfl⟩
  · have d1 : decide (55296 ≤ n) = true := by simp; omega
    have d2 : decide (n ≤ 57343) = false := by simp; omega
    have d3 : decide (0 ≤ n) = true := by simp; omega
    have d4 : decide (n ≤ 1114111) = true := by simp; omega
    go_enter Tryz.func166, Tryz.ntmps166
    go_wp2
    go_ret
    exact ⟨by rw [Hp.out.2 (by omega)]; rfl, rfl⟩
  · have d1 : decide (55296 ≤ n) = true := by simp; omega
    have d2 : decide (n ≤ 57343) = false := by simp; omega
    have d3 : decide (0 ≤ n) = true := by simp; omega
    have d4 : decide (n ≤ 1114111) = false := by simp; omega
    go_enter Tryz.func166, Tryz.ntmps166
    go_wp2
    go_ret
    exact ⟨by rw [Hb.out.2 (by omega)]; rfl, rfl⟩

set_option maxRecDepth 100000 in
set_option maxHeartbeats 400000 in
theorem sizeAfter_any (b : Nat) (w : World) (_ : b < 256) : Calls Tryz.prog 165 #[.int .i64 b] w fun e w' => e = .returned (.int .i64 (sz b : Nat)) ∧ w = w' := by
  have H : Hid (sz b = if b < 128 then 1 else if b < 192 then 0 else if b < 224 then 2 else if b < 240 then 3 else if b < 248 then 4 else 0) := rfl
  rcases (show b < 128 ∨ (128 ≤ b ∧ b < 192) ∨ (192 ≤ b ∧ b < 224) ∨ (224 ≤ b ∧ b < 240) ∨ (240 ≤ b ∧ b < 248) ∨ 248 ≤ b by omega) with h | ⟨h, h2⟩ | ⟨h, h2⟩ | ⟨h, h2⟩ | ⟨h, h2⟩ | h
  all_goals
    go_enter Tryz.func165, Tryz.ntmps165
    go_wp2
    go_ret
    refine ⟨ret_int ?_, rfl⟩
    rw [H.out]
    repeat (first | rw [if_pos (by omega)] | rw [if_neg (by omega)])
    rfl

theorem lst_vals : lst 1 = 0 ∧ lst 2 = 128 ∧ lst 3 = 2048 ∧ lst 4 = 65536 := ⟨rfl, rfl, rfl, rfl⟩
theorem mark_vals : mark 1 = 0 ∧ mark 2 = 192 ∧ mark 3 = 224 ∧ mark 4 = 240 := ⟨rfl, rfl, rfl, rfl⟩

theorem wraps_i64 (n : Int) (h₀ : 0 ≤ n) (h₁ : n < 2 ^ 62) : IntKind.i64.wrap n = n := by rw [IntKind.wrap_i64]; omega
theorem i64_and63 (n : Nat) (h : n < 4611686018427387904) : bits .and .i64 (n : Int) 63 = ((n % 64 : Nat) : Int) := by
  have := bits_mask .i64 62 (by decide) wraps_i64 6 (by decide) (n : Int) (by omega) (by omega)
  exact this
theorem i64_or128 (m : Nat) (h : m < 64) : bits .or .i64 128 (m : Int) = ((128 + m : Nat) : Int) := by
  have := bits_join .i64 62 (by decide) wraps_i64 6 128 (m : Int) (by omega) (by omega) (by omega) (by omega) (by omega) (by omega)
  rw [this]; omega
theorem i64_or6 (a m : Nat) (ha : a < 1073741824) (h : m < 64) : bits .or .i64 ((a : Int) * 64) (m : Int) = ((a * 64 + m : Nat) : Int) := by
  have := bits_join .i64 62 (by decide) wraps_i64 6 ((a : Int) * 64) (m : Int) (by omega) (by omega) (by omega) (by omega) (by omega) (by omega)
  rw [this]; omega
theorem andNot63 : ∀ b : Nat, b < 256 → bits .andNot .i64 (b : Int) 63 = ((b / 64 * 64 : Nat) : Int) := by decide +kernel
end Go.Proofs.YtebldfnocpcddaaGreatDoor

/-
  Contract of utf.Put.
-/
namespace Go.Proofs.YtebldfnocpcddaaGreatDoor
open Go.RowKit

theorem enc_at (n j : Nat) (h1 : 1 ≤ j) (h2 : j < esz n) : (enc n)[j]? = some (by8 (128 + n / 64 ^ (esz n - 1 - j) % 64)) := by
  unfold esz at h2 ⊢
  unfold enc
  split
  · rename_i h; rw [if_pos h] at h2; omega
  rename_i h; rw [if_neg h] at h2
  split
  · rename_i h'; rw [if_pos h'] at h2
    obtain rfl : j = 1 := by omega
    simp
  rename_i h'; rw [if_neg h'] at h2
  split
  · rename_i h''; rw [if_pos h''] at h2
    rcases (show j = 1 ∨ j = 2 by omega) with rfl | rfl
    · simp
    · simp
  rename_i h''; rw [if_neg h''] at h2
  rcases (show j = 1 ∨ j = 2 ∨ j = 3 by omega) with rfl | rfl | rfl
  · simp
  · simp
  · simp
theorem enc_first (n : Nat) : (enc n)[0]? = some (by8 (mark (esz n) + n / 64 ^ (esz n - 1))) := by
  unfold enc esz
  split
  · simp [mark]
  split
  · simp [mark]
  split
  · simp [mark]
  · simp [mark]
theorem first_lt (n : Nat) (h : n ≤ 1114111) : mark (esz n) + n / 64 ^ (esz n - 1) < 256 := by
  unfold esz
  split
  · simp [mark]; omega
  split
  · simp [mark]; omega
  split
  · simp [mark]; omega
  · simp [mark]; omega
/-- the encoding from byte j on, noughts before -/
def part (n j : Nat) : List UInt8 := List.replicate (j + 1) 0 ++ (enc n).drop (j + 1)
theorem part_length (n j : Nat) (h : j < esz n) : (part n j).length = esz n := by
  rw [part, List.length_append, List.length_replicate, List.length_drop, enc_length]; omega
theorem part_start (n : Nat) : part n (esz n - 1) = List.replicate (esz n) 0 := by
  have := esz_pos n
  rw [part, show esz n - 1 + 1 = esz n by omega, List.drop_of_length_le (by rw [enc_length]; omega), List.append_nil]
theorem part_at (n j : Nat) : (part n j)[j]? = some 0 := by
  rw [part, List.getElem?_append_left (by rw [List.length_replicate]; omega), List.getElem?_replicate, if_pos (by omega)]
theorem part_set (n j : Nat) (c : UInt8) (hj : j < esz n) (h : (enc n)[j]? = some c) : (part n j).set j c = List.replicate j 0 ++ (enc n).drop j := by
  have hl : j < (enc n).length := by rw [enc_length]; exact hj
  have e : (enc n).drop j = c :: (enc n).drop (j + 1) := by
    rw [List.drop_eq_getElem_cons hl]
    congr 1
    rw [List.getElem?_eq_getElem hl] at h
    exact Option.some.inj h
  rw [part, e, List.replicate_succ', List.append_assoc, List.set_append_right _ _ (by simp)]
  simp
theorem part_next (n j : Nat) (h1 : 1 ≤ j) (h2 : j < esz n) : (part n j).set j (by8 (128 + n / 64 ^ (esz n - 1 - j) % 64)) = part n (j - 1) := by
  rw [part_set n j _ h2 (enc_at n j h1 h2), part, show j - 1 + 1 = j by omega]
theorem part_done (n : Nat) : (part n 0).set 0 (by8 (mark (esz n) + n / 64 ^ (esz n - 1))) = enc n := by
  rw [part_set n 0 _ (esz_pos n) (enc_first n)]; simp

end Go.Proofs.YtebldfnocpcddaaGreatDoor

/-
  Contract of utf.Read.
-/
namespace Go.Proofs.YtebldfnocpcddaaGreatDoor
open Go.RowKit

theorem rd_short {a : UInt8} {t : List UInt8} (h : sz a.toNat = 0 ∨ t.length + 1 < sz a.toNat) : rd (a :: t) = none := by
  unfold rd; simp only; rw [if_pos h]
theorem tl_at {t : List UInt8} {j i : Nat} {b : UInt8} (h : tl (t.take j) = true) (hb : t[i]? = some b) (hi : i < j) : isT b = true := by
  unfold tl at h
  rw [List.all_eq_true] at h
  refine h b ?_
  have : (t.take j)[i]? = some b := by rw [List.getElem?_take, if_pos hi]; exact hb
  exact List.mem_of_getElem? this
theorem rd_bad {a : UInt8} {t : List UInt8} {i : Nat} {b : UInt8} (hb : t[i]? = some b) (hi : i + 1 < sz a.toNat) (hT : isT b = false) : rd (a :: t) = none := by
  have : tl (t.take (sz a.toNat - 1)) = false := by
    cases h : tl (t.take (sz a.toNat - 1)) with
    | false => rfl
    | true => rw [tl_at h hb (by omega)] at hT; cases hT
  unfold rd; simp [this]
theorem rd_end {a : UInt8} {t : List UInt8} {q : Nat} (h : ¬ (sz a.toNat = 0 ∨ t.length + 1 < sz a.toNat)) (ht : tl (t.take (sz a.toNat - 1)) = true) (hq : q = fld (a.toNat - mark (sz a.toNat)) (t.take (sz a.toNat - 1))) :
    rd (a :: t) = if isP q = true ∧ lst (sz a.toNat) ≤ q then some (q, sz a.toNat) else none := by
  unfold rd; simp only
  rw [if_neg h, if_neg (by rw [ht]; simp), ← hq]
theorem fld_snoc (n : Nat) (l : List UInt8) (b : UInt8) : fld n (l ++ [b]) = fld n l * 64 + b.toNat % 64 := by simp [fld]
theorem tl_snoc (l : List UInt8) (b : UInt8) : tl (l ++ [b]) = (tl l && isT b) := by simp [tl]
theorem fld_lt (l : List UInt8) : ∀ n : Nat, fld n l < (n + 1) * 64 ^ l.length := by
  induction l with
  | nil => intro n; simp [fld]
  | cons b l ih =>
    intro n
    have h1 := ih (n * 64 + b.toNat % 64)
    have h2 : n * 64 + b.toNat % 64 + 1 ≤ (n + 1) * 64 := by omega
    have h3 := Nat.mul_le_mul_right (64 ^ l.length) h2
    show fld (n * 64 + b.toNat % 64) l < _
    rw [List.length_cons, Nat.pow_succ, Nat.mul_comm (64 ^ l.length) 64, ← Nat.mul_assoc]
    omega
theorem mark_sz (b : Nat) (h : sz b ≠ 0) : mark (sz b) ≤ b := by
  rcases sz_cases b with ⟨e, _⟩ | e | ⟨e, _, _⟩ | ⟨e, _, _⟩ | ⟨e, _, _⟩
  · rw [e]; simp [mark]
  · exact absurd e h
  · rw [e]; simp [mark]; omega
  · rw [e]; simp [mark]; omega
  · rw [e]; simp [mark]; omega
theorem sz_le (b : Nat) : sz b ≤ 4 := by
  rcases sz_cases b with ⟨e, _⟩ | e | ⟨e, _, _⟩ | ⟨e, _, _⟩ | ⟨e, _, _⟩ <;> omega
/-- what a reader hands back -/
def rdV (l : List UInt8) : Nat × Nat × Bool := match rd l with
  | some (n, k) => (n, k, true)
  | none => (0, 0, false)
theorem rdV_none {l : List UInt8} (h : rd l = none) : rdV l = (0, 0, false) := by unfold rdV; rw [h]
theorem rdV_some {l : List UInt8} {n k : Nat} (h : rd l = some (n, k)) : rdV l = (n, k, true) := by unfold rdV; rw [h]
theorem not_isT (b : Nat) (h : b < 256) : (128 ≤ b ∧ b < 192) ↔ b / 64 * 64 = 128 := by omega
theorem ret3b {a b a' b' : Int} {c c' : Bool} (h1 : a = a') (h2 : b = b') (h3 : c = c') :
    Ending.returned (.tuple #[.int .i64 a, .int .i64 b, .bool c]) = .returned (.tuple #[.int .i64 a', .int .i64 b', .bool c']) := by rw [h1, h2, h3]

set_option maxRecDepth 100000 in
set_option maxHeartbeats 800000 in
theorem read_any (s : ByteArray) (w : World) (ht : UTab w) (hs : s.size ≤ 9223372036854775807) :
    Calls Tryz.prog 163 #[.string s] w fun e w' => e = .returned (.tuple #[.int .i64 ((rdV (bs s)).1 : Nat), .int .i64 ((rdV (bs s)).2.1 : Nat), .bool (rdV (bs s)).2.2]) ∧ Below w.heap.size w w' := by
  have HT := Lib.hid ht; clear ht
  by_cases h0 : s.size = 0
  · have hnil : bs s = [] := List.eq_nil_of_length_eq_zero (by rw [bs_length]; exact h0)
    have hemp : s = ⟨#[]⟩ := bs_eq hnil
    subst hemp
    go_enter Tryz.func163, Tryz.ntmps163
    go_wp2
    go_ret3
    exact ⟨rfl, Below.refl _ _⟩
  obtain ⟨t, ht0, htl, hta⟩ := bs_cons s (by omega)
  have Hta := Lib.hid hta; clear hta
  have hb0 : s[0].toNat < 256 := s[0].toNat_lt
  have hk4 := sz_le s[0].toNat
  have hne : (s.toList == []) = false := by
    rw [ByteArray.toList_eq]; show (bs s == []) = false; rw [ht0]; rfl
  rw [ht0]
  by_cases hsh : sz s[0].toNat = 0 ∨ t.length + 1 < sz s[0].toNat
  · have HV := Lib.hid (rdV_none (rd_short hsh))
    have Ht0 := Lib.hid ht0; clear ht0
    by_cases hz : sz s[0].toNat = 0
    · have hd : (((sz s[0].toNat : Nat) : Int) == 0) = true := by simp; omega
      go_enter Tryz.func163, Tryz.ntmps163
      go_wp2_with fail
      refine (sizeAfter_any _ _ (by omega)).mono ?_
      rintro e w1 ⟨rfl, rfl⟩
      go_wp2
      go_ret3
      exact ⟨by rw [HV.out]; rfl, Below.refl _ _⟩
    · have hd : (((sz s[0].toNat : Nat) : Int) == 0) = false := by simp; omega
      have hd2 : decide ((s.size : Int) < ((sz s[0].toNat : Nat) : Int)) = true := by simp; omega
      go_enter Tryz.func163, Tryz.ntmps163
      go_wp2_with fail
      refine (sizeAfter_any _ _ (by omega)).mono ?_
      rintro e w1 ⟨rfl, rfl⟩
      go_wp2
      go_ret3
      exact ⟨by rw [HV.out]; rfl, Below.refl _ _⟩
  have hd : (((sz s[0].toNat : Nat) : Int) == 0) = false := by simp; omega
  have hd2 : decide ((s.size : Int) < ((sz s[0].toNat : Nat) : Int)) = false := by simp; omega
  have hd3 : decide (s.size < sz s[0].toNat) = false := by simp; omega
  have Ht0 := Lib.hid ht0; clear ht0
  have hms := mark_sz s[0].toNat (by omega)
  have hcell : w.cell? ⟨5, sz s[0].toNat - 1, none⟩ = some (.int .i64 ((mark (sz s[0].toNat) : Nat) : Int)) := by
    have := HT.out.1 (sz s[0].toNat - 1) (by omega)
    rw [show sz s[0].toNat - 1 + 1 = sz s[0].toNat by omega] at this
    exact this
  have hcell2 : w.drew.cell? ⟨6, sz s[0].toNat - 1, none⟩ = some (.int .i64 ((lst (sz s[0].toNat) : Nat) : Int)) := by
    have := HT.out.drew.2 (sz s[0].toNat - 1) (by omega)
    rw [show sz s[0].toNat - 1 + 1 = sz s[0].toNat by omega] at this
    exact this
  have Hbad : Hid (∀ i b, t[i]? = some b → i + 1 < sz s[0].toNat → isT b = false → rdV (s[0] :: t) = (0, 0, false)) := fun i b h1 h2 h3 => rdV_none (rd_bad h1 h2 h3)
  have Hend : Hid (∀ q, tl (t.take (sz s[0].toNat - 1)) = true → q = fld (s[0].toNat - mark (sz s[0].toNat)) (t.take (sz s[0].toNat - 1)) →
      rd (s[0] :: t) = if isP q = true ∧ lst (sz s[0].toNat) ≤ q then some (q, sz s[0].toNat) else none) := fun q h1 h2 => rd_end hsh h1 h2
  generalize hk : sz s[0].toNat = k at *
  have Hk := Lib.hid hk; clear hk
  generalize hm : mark k = m at *
  generalize hv : rdV (s[0] :: t) = v at *
  have Hv := Lib.hid hv; clear hv
  have Hm := Lib.hid hm; clear hm
  go_enter Tryz.func163, Tryz.ntmps163
  go_wp2_with fail
  refine (sizeAfter_any _ _ (by omega)).mono ?_
  rintro e w1 ⟨rfl, rfl⟩
  rw [Hk.out]
  go_wp2
  go_region
  go_wp2
  go_loop [2, 3, 5] (fun x y i => ∃ j q : Nat, j + 1 ≤ k ∧ y = .int .i64 k ∧ i = .int .i64 (j + 1 : Nat) ∧ x = .int .i64 q ∧ q < 256 * 64 ^ j ∧ Hid (tl (t.take j) = true) ∧ Hid (q = fld (s[0].toNat - m) (t.take j))) (fun _ _ i => k - (intOf i).toNat)
  case atStart => exact ⟨0, s[0].toNat - m, by omega, rfl, by go_num, by go_num, by omega, rfl, rfl⟩
  case round =>
    obtain ⟨j, q, hj, rfl, rfl, rfl, hq, hT, hF⟩ := hrel
    have hp : 64 ^ j ≤ 64 ^ 3 := Nat.pow_le_pow_right (by omega) (by omega)
    have hq2 : q < 67108864 := by omega
    have Hq : Hid (q * 64 + 64 ≤ 256 * 64 ^ (j + 1)) := by
      show _ ≤ _
      rw [Nat.pow_succ]; omega
    clear hq hp
    by_cases hlt : j + 1 < k
    · have hta : Hid (t[j]? = some s[j + 1]) := Hta.out j (by omega)
      have hb : s[j + 1].toNat < 256 := s[j + 1].toNat_lt
      have hjs : j + 1 < s.size := by omega
      have Hts : Hid (t.take (j + 1) = t.take j ++ [s[j + 1]]) := take_at hta
      have hnot := andNot63 s[j + 1].toNat hb
      by_cases hB : isT s[j + 1] = true
      · have hB' := (isT_iff _).1 hB
        rw [show s[j + 1].toNat / 64 * 64 = 128 by omega] at hnot
        have Hor : Hid (bits .or .i64 ((q : Int) * 64) (bits .and .i64 (s[j + 1].toNat : Int) 63) = ((q * 64 + s[j + 1].toNat % 64 : Nat) : Int)) := by
          show _ = _
          rw [i64_and63 s[j + 1].toNat (by omega)]
          exact i64_or6 q (s[j + 1].toNat % 64) (by omega) (by omega)
        have Hs : Hid (fld (s[0].toNat - m) (t.take (j + 1)) = q * 64 + s[j + 1].toNat % 64) := by
          show _ = _
          rw [Hts.out, fld_snoc, ← hF.out]
        have HtT : Hid (tl (t.take (j + 1)) = true) := by
          show _ = _
          rw [Hts.out, tl_snoc, hT.out, hB]; rfl
        have HB := Lib.hid hB; clear hB hB'
        go_wp2
        go_round
        case rel => exact ⟨j + 1, q * 64 + s[j + 1].toNat % 64, by omega, rfl, by go_num, congrArg (Value.int .i64) Hor.out, by have := Hq.out; omega, HtT, Hs.out.symm⟩
        case measure => simp [intOf]; omega
      · have hB1 : isT s[j + 1] = false := by simpa using hB
        have hB' : ¬ (128 ≤ s[j + 1].toNat ∧ s[j + 1].toNat < 192) := fun h => hB ((isT_iff _).2 h)
        have hne2 : ((((s[j + 1].toNat / 64 * 64 : Nat) : Int)) == 128) = false := by simp; omega
        have Hx := Lib.hid (Hbad.out j _ hta hlt hB1)
        clear hB hB1 hB'
        go_wp2
        go_ret3
        exact ⟨by rw [Hx.out]; rfl, (Below.refl _ _).drew⟩
    · obtain rfl : k = j + 1 := by omega
      have hend := Hend.out q hT.out hF.out
      rw [Nat.add_sub_cancel] at hcell2
      by_cases hP : isP q = true
      · by_cases hL : lst (j + 1) ≤ q
        · rw [if_pos ⟨hP, hL⟩] at hend
          have hv : v = (q, j + 1, true) := by rw [← Hv.out]; exact rdV_some hend
          have hd3 : decide ((q : Int) < ((lst (j + 1) : Nat) : Int)) = false := by simp; omega
          subst hv
          clear hend
          go_wp2_with fail
          refine (isCode_any q _).mono ?_
          rintro e w1 ⟨rfl, rfl⟩
          go_wp2
          go_ret3
          exact ⟨rfl, (Below.refl _ _).drew⟩
        · rw [if_neg (fun h => hL h.2)] at hend
          have hv : v = (0, 0, false) := by rw [← Hv.out]; exact rdV_none hend
          have hd3 : decide ((q : Int) < ((lst (j + 1) : Nat) : Int)) = true := by simp; omega
          subst hv
          clear hend
          go_wp2_with fail
          refine (isCode_any q _).mono ?_
          rintro e w1 ⟨rfl, rfl⟩
          go_wp2
          go_ret3
          exact ⟨rfl, (Below.refl _ _).drew⟩
      · rw [if_neg (fun h => hP h.1)] at hend
        have hv : v = (0, 0, false) := by rw [← Hv.out]; exact rdV_none hend
        have hP' : isP q = false := by simpa using hP
        subst hv
        clear hend hP
        go_wp2_with fail
        refine (isCode_any q _).mono ?_
        rintro e w1 ⟨rfl, rfl⟩
        go_wp2
        go_ret3
        exact ⟨rfl, (Below.refl _ _).drew⟩

theorem read_yes (s : ByteArray) (n k : Nat) (w : World) (ht : UTab w) (hs : s.size ≤ 9223372036854775807) (h : rd (bs s) = some (n, k)) :
    Calls Tryz.prog 163 #[.string s] w fun e w' => e = .returned (.tuple #[.int .i64 n, .int .i64 k, .bool true]) ∧ Below w.heap.size w w' := by
  have := read_any s w ht hs
  rw [rdV_some h] at this
  exact this
theorem read_no (s : ByteArray) (w : World) (ht : UTab w) (hs : s.size ≤ 9223372036854775807) (h : rd (bs s) = none) :
    Calls Tryz.prog 163 #[.string s] w fun e w' => e = .returned (.tuple #[.int .i64 0, .int .i64 0, .bool false]) ∧ Below w.heap.size w w' := by
  have := read_any s w ht hs
  rw [rdV_none h] at this
  exact this
end Go.Proofs.YtebldfnocpcddaaGreatDoor

/-
  Contracts of the document's own utf: Is, one, Put.
-/
namespace Go.Proofs.YtebldfnocpcddaaGreatDoor
open Go.RowKit

set_option maxRecDepth 100000 in
set_option maxHeartbeats 400000 in
theorem ris_any (n : Int) (w : World) : Calls Tryz.prog 119 #[.int .i64 n] w fun e w' => e = .returned (.bool (isP n)) ∧ w = w' := by
  have Hp := Lib.hid (isP_iff n)
  have Hb : Hid (isP n = false ↔ ¬ (0 ≤ n ∧ n ≤ 1114111 ∧ (n < 55296 ∨ 57343 < n))) := by show _ ↔ _; simp [isP]
  rcases (show n < 0 ∨ (0 ≤ n ∧ n < 55296) ∨ (55296 ≤ n ∧ n ≤ 57343) ∨ (57343 < n ∧ n ≤ 1114111) ∨ 1114111 < n by omega) with h | ⟨h, h2⟩ | ⟨h, h2⟩ | ⟨h, h2⟩ | h
  · have d2 : decide (0 ≤ n) = false := by simp; omega
    go_enter Tryz.func119, Tryz.ntmps119
    go_wp2
    go_ret
    exact ⟨by rw [Hb.out.2 (by omega)]; rfl, rfl⟩
  · have d1 : decide (n < 55296) = true := by simp; omega
    have d2 : decide (0 ≤ n) = true := by simp; omega
    have d3 : decide (n ≤ 1114111) = true := by simp; omega
    go_enter Tryz.func119, Tryz.ntmps119
    go_wp2
    go_ret
    exact ⟨by rw [Hp.out.2 (by omega)]; rfl, rfl⟩
  · have d1 : decide (n < 55296) = false := by simp; omega
    have d2 : decide (57343 < n) = false := by simp; omega
    have d3 : decide (0 ≤ n) = true := by simp; omega
    have d4 : decide (n ≤ 1114111) = true := by simp; omega
    go_enter Tryz.func119, Tryz.ntmps119
    go_wp2
    go_ret
    exact ⟨by rw [Hb.out.2 (by omega)]; rfl, rfl⟩
  · have d1 : decide (n < 55296) = false := by simp; omega
    have d2 : decide (57343 < n) = true := by simp; omega
    have d3 : decide (0 ≤ n) = true := by simp; omega
    have d4 : decide (n ≤ 1114111) = true := by simp; omega
    go_enter Tryz.func119, Tryz.ntmps119
    go_wp2
    go_ret
    exact ⟨by rw [Hp.out.2 (by omega)]; rfl, rfl⟩
  · have d3 : decide (0 ≤ n) = true := by simp; omega
    have d4 : decide (n ≤ 1114111) = false := by simp; omega
    go_enter Tryz.func119, Tryz.ntmps119
    go_wp2
    go_ret
    exact ⟨by rw [Hb.out.2 (by omega)]; rfl, rfl⟩

set_option maxRecDepth 100000 in
set_option maxHeartbeats 400000 in
theorem rone3_any (z : Int) (n : Nat) (hz : z = (n : Int)) (hn : n < 256) (w : World) :
    Calls Tryz.prog 140 #[.int .i64 z] w fun e w' => e = .returned (.string ⟨#[by8 n]⟩) ∧ Below w.heap.size w w' := by
  subst hz
  have hcv := fun w' => run_string_one w' w.heap.size 1 (n : Int) (by8 n) (by rw [by8_toNat n hn])
  go_enter Tryz.func140, Tryz.ntmps140
  go_wp2
  go_ret
  exact ⟨rfl, (Below.refl _ _).alloc (Nat.le_refl _) _⟩

theorem enc1 (n : Nat) (h : n < 128) : enc n = [by8 n] := by unfold enc; rw [if_pos h]
theorem enc2 (n : Nat) (h1 : 128 ≤ n) (h : n < 2048) : enc n = [by8 (192 + n / 64), by8 (128 + n % 64)] := by unfold enc; rw [if_neg (by omega), if_pos h]
theorem enc3 (n : Nat) (h1 : 2048 ≤ n) (h : n < 65536) : enc n = [by8 (224 + n / 4096), by8 (128 + n / 64 % 64), by8 (128 + n % 64)] := by unfold enc; rw [if_neg (by omega), if_neg (by omega), if_pos h]
theorem enc4 (n : Nat) (h1 : 65536 ≤ n) : enc n = [by8 (240 + n / 262144), by8 (128 + n / 4096 % 64), by8 (128 + n / 64 % 64), by8 (128 + n % 64)] := by
  unfold enc; rw [if_neg (by omega), if_neg (by omega), if_neg (by omega)]

theorem rone3_as (z : Int) (n : Nat) (c : UInt8) (hz : z = (n : Int)) (hn : n < 256) (hc : Hid (c = by8 n)) (w : World) :
    Calls Tryz.prog 140 #[.int .i64 z] w fun e w' => e = .returned (.string ⟨#[c]⟩) ∧ Below w.heap.size w w' := by
  rw [hc.out]; exact rone3_any z n hz hn w
theorem name_it (b : UInt8) : ∃ a, Hid (a = b) := ⟨b, rfl⟩

set_option maxRecDepth 100000 in
set_option maxHeartbeats 800000 in
theorem rput3_any (n : Nat) (w : World) (hn : n ≤ 1114111) :
    Calls Tryz.prog 120 #[.int .i64 n] w fun e w' => e = .returned (.string ⟨(enc n).toArray⟩) ∧ Below w.heap.size w w' := by
  rcases (show n < 128 ∨ (128 ≤ n ∧ n < 2048) ∨ (2048 ≤ n ∧ n < 65536) ∨ 65536 ≤ n by omega) with h | ⟨h, h2⟩ | ⟨h, h2⟩ | h
  · have He := Lib.hid (enc1 n h)
    go_enter Tryz.func120, Tryz.ntmps120
    go_wp2_with fail
    refine (rone3_any _ n (by omega) (by omega) _).mono ?_
    rintro e w1 ⟨rfl, hb1⟩
    go_wp2
    go_ret
    exact ⟨by rw [He.out]; rfl, hb1⟩
  · have He := enc2 n h h2
    obtain ⟨a, Ha⟩ := name_it (by8 (192 + n / 64))
    obtain ⟨b, Hb⟩ := name_it (by8 (128 + n % 64))
    rw [← Ha.out, ← Hb.out] at He
    have He := Lib.hid He
    go_enter Tryz.func120, Tryz.ntmps120
    go_wp2_with fail
    refine (rone3_as _ (192 + n / 64) a (by omega) (by omega) Ha _).mono ?_
    rintro e w1 ⟨rfl, hb1⟩
    go_wp2_with fail
    refine (rone3_as _ (128 + n % 64) b (by omega) (by omega) Hb _).mono ?_
    rintro e w2 ⟨rfl, hb2⟩
    have hadd := fun w' => run_string_add_sum (P := Tryz.prog) (w := w') ⟨#[a]⟩ ⟨#[b]⟩ (by simp [ByteArray.size])
    go_wp2
    go_ret
    exact ⟨by rw [He.out]; rfl, hb1.trans (hb2.mono hb1.size)⟩
  · have He := enc3 n h h2
    have d1 : decide ((n : Int) < 128) = false := by simp; omega
    have d2 : decide ((n : Int) < 2048) = false := by simp; omega
    have d3 : decide ((n : Int) < 65536) = true := by simp; omega
    have Hh2 := Lib.hid h2; clear h h2
    obtain ⟨a, Ha⟩ := name_it (by8 (224 + n / 4096))
    obtain ⟨b, Hb⟩ := name_it (by8 (128 + n / 64 % 64))
    obtain ⟨c, Hc⟩ := name_it (by8 (128 + n % 64))
    rw [← Ha.out, ← Hb.out, ← Hc.out] at He
    have He := Lib.hid He
    go_enter Tryz.func120, Tryz.ntmps120
    go_wp2_with fail
    refine (rone3_as _ (224 + n / 4096) a (by omega) (by have := Hh2.out; omega) Ha _).mono ?_
    rintro e w1 ⟨rfl, hb1⟩
    go_wp2_with fail
    refine (rone3_as _ (128 + n / 64 % 64) b (by omega) (by omega) Hb _).mono ?_
    rintro e w2 ⟨rfl, hb2⟩
    have hadd := fun w' => run_string_add_sum (P := Tryz.prog) (w := w') ⟨#[a]⟩ ⟨#[b]⟩ (by simp [ByteArray.size])
    go_wp2_with fail
    refine (rone3_as _ (128 + n % 64) c (by omega) (by omega) Hc _).mono ?_
    rintro e w3 ⟨rfl, hb3⟩
    have hadd2 := fun w' => run_string_add_sum (P := Tryz.prog) (w := w') (⟨#[a]⟩ ++ ⟨#[b]⟩) ⟨#[c]⟩ (by rw [ByteArray.size_append]; simp [ByteArray.size])
    go_wp2
    go_ret
    exact ⟨by rw [He.out]; rfl, hb1.trans ((hb2.trans (hb3.mono hb2.size)).mono hb1.size)⟩
  · have He := enc4 n h
    have d1 : decide ((n : Int) < 128) = false := by simp; omega
    have d2 : decide ((n : Int) < 2048) = false := by simp; omega
    have d3 : decide ((n : Int) < 65536) = false := by simp; omega
    clear h
    obtain ⟨a, Ha⟩ := name_it (by8 (240 + n / 262144))
    obtain ⟨b, Hb⟩ := name_it (by8 (128 + n / 4096 % 64))
    obtain ⟨c, Hc⟩ := name_it (by8 (128 + n / 64 % 64))
    obtain ⟨d, Hd⟩ := name_it (by8 (128 + n % 64))
    rw [← Ha.out, ← Hb.out, ← Hc.out, ← Hd.out] at He
    have He := Lib.hid He
    go_enter Tryz.func120, Tryz.ntmps120
    go_wp2_with fail
    refine (rone3_as _ (240 + n / 262144) a (by omega) (by omega) Ha _).mono ?_
    rintro e w1 ⟨rfl, hb1⟩
    go_wp2_with fail
    refine (rone3_as _ (128 + n / 4096 % 64) b (by omega) (by omega) Hb _).mono ?_
    rintro e w2 ⟨rfl, hb2⟩
    have hadd := fun w' => run_string_add_sum (P := Tryz.prog) (w := w') ⟨#[a]⟩ ⟨#[b]⟩ (by simp [ByteArray.size])
    go_wp2_with fail
    refine (rone3_as _ (128 + n / 64 % 64) c (by omega) (by omega) Hc _).mono ?_
    rintro e w3 ⟨rfl, hb3⟩
    have hadd2 := fun w' => run_string_add_sum (P := Tryz.prog) (w := w') (⟨#[a]⟩ ++ ⟨#[b]⟩) ⟨#[c]⟩ (by rw [ByteArray.size_append]; simp [ByteArray.size])
    go_wp2_with fail
    refine (rone3_as _ (128 + n % 64) d (by omega) (by omega) Hd _).mono ?_
    rintro e w4 ⟨rfl, hb4⟩
    have hadd3 := fun w' => run_string_add_sum (P := Tryz.prog) (w := w') (⟨#[a]⟩ ++ ⟨#[b]⟩ ++ ⟨#[c]⟩) ⟨#[d]⟩ (by rw [ByteArray.size_append, ByteArray.size_append]; simp [ByteArray.size])
    go_wp2
    go_ret
    exact ⟨by rw [He.out]; rfl, hb1.trans ((hb2.trans ((hb3.trans (hb4.mono hb3.size)).mono hb2.size)).mono hb1.size)⟩
end Go.Proofs.YtebldfnocpcddaaGreatDoor

/-
  Contract of the document's own Read.
-/
namespace Go.Proofs.YtebldfnocpcddaaGreatDoor
open Go.RowKit

/-- the number that the document's reader tries for a size -/
def cand (k : Nat) (a : UInt8) (t : List UInt8) : Int := cnd ((a.toNat : Int) - (mark k : Nat)) (t.take (k - 1))
theorem cand_rd {a : UInt8} {t : List UInt8} {n k : Nat} (h : rd (a :: t) = some (n, k)) : cand k a t = n := by
  obtain ⟨a', t', e, h1, h2, _, h4, h5, _, _⟩ := rd_parts h
  cases e
  have hm := mark_sz a.toNat (by omega)
  rw [h1] at hm
  rw [cand, show (a.toNat : Int) - (mark k : Nat) = ((a.toNat - mark k : Nat) : Int) by omega, cnd_fld _ _ h4, h5]
theorem cnd_snoc (n : Int) (l : List UInt8) (b : UInt8) : cnd n (l ++ [b]) = cnd n l * 64 + (b.toNat : Int) - 128 := by simp [cnd]
/-- the test fits -/
theorem cand_yes {a : UInt8} {t : List UInt8} {n k : Nat} (hp : isP n = true) (h : enc n = (a :: t).take k) (hk : k ≤ t.length + 1) : rdV (a :: t) = (n, k, true) := by
  have h1 := rd_of_take hp h
  have h2 : k = esz n := by rw [← enc_length, h, List.length_take, List.length_cons]; omega
  rw [rdV_some h1, h2]
theorem cand_no {a : UInt8} {t : List UInt8} {k : Nat} (h : ∀ n : Nat, cand k a t = n → isP n = true → enc n ≠ (a :: t).take k) (n : Nat) : rd (a :: t) ≠ some (n, k) := fun e => by
  obtain ⟨h1, _, h3, _⟩ := rd_some e
  exact h n (cand_rd e) h1 h3
theorem none_of {l : List UInt8} {k : Nat} (h : ∀ n j, rd l = some (n, j) → k ≤ j) (hk : 4 < k ∨ l.length < k) : rd l = none := by
  cases hr : rd l with
  | none => rfl
  | some p =>
    obtain ⟨n, j⟩ := p
    have h1 := h n j hr
    have h2 := rd_pos hr
    omega

theorem ris_no (z : Int) (h : isP z = false) (w : World) : Calls Tryz.prog 119 #[.int .i64 z] w fun e w' => e = .returned (.bool false) ∧ w' = w := by
  have := ris_any z w
  rw [h] at this
  exact this.mono fun _ _ ⟨h1, h2⟩ => ⟨h1, h2.symm⟩

set_option maxRecDepth 100000 in
set_option maxHeartbeats 1600000 in
theorem rread_any (s : ByteArray) (w : World) (hs : s.size ≤ 9223372036854775807) :
    Calls Tryz.prog 97 #[.string s] w fun e w' => e = .returned (.tuple #[.int .i64 ((rdV (bs s)).1 : Nat), .int .i64 ((rdV (bs s)).2.1 : Nat), .bool (rdV (bs s)).2.2]) ∧ Below w.heap.size w w' := by
  generalize hv : rdV (bs s) = v
  have Hv := Lib.hid hv; clear hv
  go_enter Tryz.func97, Tryz.ntmps97
  go_wp2_with fail
  go_loopw [5] (fun i wr => ∃ k : Nat, 1 ≤ k ∧ k ≤ 5 ∧ i = .int .i64 k ∧ Hid (∀ n j, rd (bs s) = some (n, j) → k ≤ j) ∧ Below w.heap.size w wr) (fun i _ => 5 - (intOf i).toNat)
  case atStart => exact ⟨1, by omega, by omega, rfl, fun n j h => (rd_pos h).1, Below.refl _ _⟩
  case round =>
    obtain ⟨k, hk1, hk5, rfl, hno, hb⟩ := hrel
    by_cases hend : 4 < k ∨ s.size < k
    · have hv : v = (0, 0, false) := by rw [← Hv.out]; exact rdV_none (none_of hno.out (by rw [bs_length]; exact hend))
      subst hv
      by_cases h4 : 4 < k
      · have d1 : decide ((k : Int) ≤ 4) = false := by simp; omega
        go_wp2
        go_ret3
        exact ⟨rfl, hb⟩
      · have d1 : decide ((k : Int) ≤ 4) = true := by simp; omega
        have d2 : decide ((k : Int) ≤ (s.size : Int)) = false := by simp; omega
        go_wp2
        go_ret3
        exact ⟨rfl, hb⟩
    · obtain ⟨t, ht0, htl, hta⟩ := bs_cons s (by omega)
      have Hta := Lib.hid hta; clear hta
      have Ht0 := Lib.hid ht0; clear ht0
      have hb0 : s[0].toNat < 256 := s[0].toNat_lt
      have d1 : decide ((k : Int) ≤ 4) = true := by simp; omega
      have d2 : decide ((k : Int) ≤ (s.size : Int)) = true := by simp; omega
      have d3 : decide (k ≤ s.size) = true := by simp; omega
      obtain ⟨K, hK⟩ : ∃ K, K = k := ⟨k, rfl⟩
      rcases (show k = 1 ∨ k = 2 ∨ k = 3 ∨ k = 4 by omega) with rfl | rfl | rfl | rfl
      all_goals
        have HK := Lib.hid hK; clear hK
        have Hm : Hid (((mark K : Nat) : Int) = (mark K : Nat)) := rfl
        rw [HK.out] at Hm
        go_wp2_with fail
        go_loop [6, 7] (fun x i => ∃ (j : Nat) (z : Int), j + 1 ≤ K ∧ i = .int .i64 (j + 1 : Nat) ∧ x = .int .i64 z ∧ 4 - 300 * 64 ^ j ≤ z ∧ z ≤ 300 * 64 ^ j - 4 ∧ Hid (z = cnd ((s[0].toNat : Int) - (mark K : Nat)) (t.take j))) (fun _ i => 4 - (intOf i).toNat)
        case atStart => exact ⟨0, _, by rw [HK.out]; omega, rfl, rfl, by omega, by omega, by rw [HK.out]; rfl⟩
        case round =>
          obtain ⟨j, z, hj, rfl, rfl, hz1, hz2, hF⟩ := hrel
          have hp : (64 : Int) ^ j ≤ 64 ^ 3 := by
            have := Nat.pow_le_pow_right (n := 64) (by omega) (show j ≤ 3 by have := HK.out; omega)
            exact_mod_cast this
          have hz3 : -78643200 ≤ z := by omega
          have hz4 : z ≤ 78643200 := by omega
          have Hz1 : Hid (4 - 300 * 64 ^ (j + 1) ≤ z * 64 - 128) := by show _ ≤ _; rw [Int.pow_succ]; omega
          have Hz2 : Hid (z * 64 + 128 ≤ 300 * 64 ^ (j + 1) - 4) := by show _ ≤ _; rw [Int.pow_succ]; omega
          clear hz1 hz2 hp
          by_cases hlt : j + 1 < K
          · have hjs : j + 1 < s.size := by have := HK.out; omega
            have hta : Hid (t[j]? = some s[j + 1]) := Hta.out j hjs
            have hbj : s[j + 1].toNat < 256 := s[j + 1].toNat_lt
            have Hs : Hid (cnd ((s[0].toNat : Int) - (mark K : Nat)) (t.take (j + 1)) = z * 64 + (s[j + 1].toNat : Int) - 128) := by
              show _ = _
              rw [take_at hta, cnd_snoc, ← hF.out]
            have hlt2 := hlt
            rw [HK.out] at hlt2
            go_wp2
            all_goals
              go_round
              case rel => exact ⟨j + 1, z * 64 + (s[j + 1].toNat : Int) - 128, by omega, by go_num, rfl, by have := Hz1.out; omega, by have := Hz2.out; omega, Hs.out.symm⟩
              case measure => simp [intOf]; omega
          · have hjK : K = j + 1 := by omega
            have Hc : Hid (z = cand K s[0] t) := by
              show z = _
              rw [hF.out, hjK]; rfl
            have Hx : Hid ((s.extract 0 K).toList = (s[0] :: t).take K) := by
              show _ = _
              rw [ByteArray.toList_eq]
              exact (bs_extract _ _ _).trans (by rw [List.drop_zero, Ht0.out])
            have hge := hlt
            rw [HK.out] at hge
            have Hj := Lib.hid hjK; clear hjK hlt
            by_cases hP : isP z = true
            · obtain ⟨n, hn⟩ := Int.eq_ofNat_of_zero_le ((isP_iff z).1 hP).1
              subst hn
              have hn2 := ((isP_iff n).1 hP).2.1
              have Hyes : Hid (enc n = (s[0] :: t).take K → rdV (bs s) = (n, K, true)) := fun hE => by rw [Ht0.out]; exact cand_yes hP hE (by rw [HK.out]; omega)
              have Hno : Hid (enc n ≠ (s[0] :: t).take K → ∀ m j', rd (bs s) = some (m, j') → K + 1 ≤ j') := fun hE m j' h => by
                have h1 := hno.out m j' h
                have hne : j' ≠ K := fun e => by
                  subst e
                  rw [Ht0.out] at h
                  refine cand_no (fun n' h3 h4 h5 => ?_) m h
                  have h6 : (n : Int) = n' := Hc.out.trans h3
                  obtain rfl : n = n' := by omega
                  exact hE h5
                rw [← HK.out] at h1
                omega
              have Hcmp : Hid ((enc n == (s.extract 0 K).toList) = decide (enc n = (s[0] :: t).take K)) := by
                show _ = _
                rw [Hx.out, Bool.eq_iff_iff]; simp
              rw [HK.out] at Hcmp
              go_wp2_with fail
              go_region_with (first
                | (go_at_call 119; refine (ris_any _ _).mono ?_; rintro e w1 ⟨rfl, rfl⟩)
                | (go_at_call 120; refine (rput3_any _ _ (by omega)).mono ?_; rintro e w1 ⟨rfl, hb1⟩))
              all_goals
                by_cases hE : enc n = (s[0] :: t).take K
                · have hv : v = (n, K, true) := by rw [← Hv.out]; exact Hyes.out hE
                  have hcmp := Hcmp.out
                  rw [decide_eq_true (by rw [← HK.out]; exact hE)] at hcmp
                  rw [HK.out] at hv
                  subst hv
                  have HE := Lib.hid hE; clear hE
                  go_wp2
                  all_goals first
                    | exact absurd ‹(enc n == _) = false› (by rw [hcmp]; decide)
                    | (go_ret3
                       exact ⟨rfl, hb.drew.trans (hb1.mono hb.drew.size)⟩)
                · have Hno2 := Lib.hid (Hno.out hE)
                  have hcmp := Hcmp.out
                  rw [decide_eq_false (by rw [← HK.out]; exact hE)] at hcmp
                  have HE := Lib.hid hE; clear hE
                  go_wp2
                  all_goals first
                    | exact absurd ‹(enc n == _) = true› (by rw [hcmp]; decide)
                    | (go_roundw
                       case rel => exact ⟨K + 1, by omega, by have := HK.out; omega, by rw [HK.out]; rfl, Hno2, hb.drew.trans (hb1.mono hb.drew.size)⟩
                       case measure => simp [intOf])
            · have hP' : isP z = false := by simpa using hP
              have Hno2 : Hid (∀ m j', rd (bs s) = some (m, j') → K + 1 ≤ j') := fun m j' h => by
                have h1 := hno.out m j' h
                have hne : j' ≠ K := fun e => by
                  subst e
                  rw [Ht0.out] at h
                  refine cand_no (fun n' h3 h4 h5 => ?_) m h
                  rw [Hc.out, h3] at hP'
                  rw [hP'] at h4; cases h4
                rw [← HK.out] at h1
                omega
              clear hP
              have Hby : Hid (∀ n, Below w.heap.size w (wr.drewN n)) := fun n => below_drewN hb n
              go_wp2_with fail
              go_quiet (first | (go_at_call 119; refine Calls.quiet_of_same (ris_no _ hP' _)))
              all_goals go_wp2
              all_goals
                go_roundw
                case rel => exact ⟨K + 1, by omega, by have := HK.out; omega, by rw [HK.out]; rfl, Hno2, Hby.out _⟩
                case measure => simp [intOf]
end Go.Proofs.YtebldfnocpcddaaGreatDoor
