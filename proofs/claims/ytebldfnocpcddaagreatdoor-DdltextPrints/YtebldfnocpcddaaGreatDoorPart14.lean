/-
  Texts that the proof needs, one behind the other: DtxMath, DtxMath2, DtxMath3, DtxMath4.
-/
import Derived.Test.YtebldfnocpcddaaGreatDoorPart6
import Derived.Test.YtebldfnocpcddaaGreatDoorPart10
import Derived.Test.YtebldfnocpcddaaGreatDoorPart13

/-
  The text of a change (layer 10) in plain words: the document's parser over the bytes that are left, and the text, whatever blanks stand in it.
-/
namespace Go.Proofs.YtebldfnocpcddaaGreatDoor

def isBl (c : UInt8) : Bool := decide (c.toNat = 32) || decide (c.toNat = 9) || decide (c.toNat = 10)
/-- what is left behind blanks -/
def bl (r : List UInt8) : List UInt8 := r.dropWhile isBl
/-- the word that comes -/
def wd (r : List UInt8) : List UInt8 := r.take (rdN r)
/-- where it went wrong (what was left), and the error -/
abbrev Er := List UInt8 × Nat
def strB (l : List UInt8) : ByteArray := ⟨l.toArray⟩
def pName (r : List UInt8) : Except Er (List UInt8 × List UInt8) :=
  if wd (bl r) = [] then .error (bl r, 5) else if rightN (wd (bl r)) = true then .ok (wd (bl r), (bl r).drop (wd (bl r)).length) else .error (bl r, 8)
def pWord (w r : List UInt8) : Except Er (List UInt8) := if wd (bl r) = w then .ok ((bl r).drop w.length) else .error (bl r, 5)
def pSign (c : UInt8) (r : List UInt8) : Except Er (List UInt8) := if (bl r)[0]? = some c then .ok ((bl r).drop 1) else .error (bl r, 5)
def pKind (r : List UInt8) : Except Er ((Int × Int) × List UInt8) :=
  if (readT (bl r)).2.2 = 0 then .ok ((readT (bl r)).1, (bl r).drop (readT (bl r)).2.1) else .error (bl r, (readT (bl r)).2.2)
noncomputable def pVal (null : Bool) (r : List UInt8) : Except Er (Val × List UInt8) :=
  if (readW (bl r)).2.2 = 0 then (if (readW (bl r)).1.1 = 0 ∧ null = false then .error (bl r, 11) else .ok ((readW (bl r)).1, (bl r).drop (readW (bl r)).2.1)) else .error (bl r, (readW (bl r)).2.2)
def defT : List UInt8 := [100, 101, 102, 97, 117, 108, 116]
def pNull (r : List UInt8) : Bool × List UInt8 := if wd (bl r) = nullT then (true, (bl r).drop 4) else (false, bl r)
noncomputable def pDef (r : List UInt8) : Except Er (Val × List UInt8) := if wd (bl r) = defT then pVal false ((bl r).drop 7) else .ok ((0, 0, []), bl r)
noncomputable def pCol (r : List UInt8) : Except Er (Cb × List UInt8) :=
  (pName r).bind fun n => (pKind n.2).bind fun t => (pDef (pNull t.2).2).bind fun v => .ok (⟨0, strB n.1, t.1.1, t.1.2, (pNull t.2).1, v.1.1, v.1.2.1, strB v.1.2.2⟩, v.2)
/-- columns, one behind the other, at most so many more -/
noncomputable def pCols : Nat → List Cb → List UInt8 → Except Er (List Cb × List UInt8)
  | 0, _, r => .error (bl r, 3)
  | k + 1, out, r => (pCol (bl r)).bind fun c => if (bl c.2)[0]? = some 44 then pCols k (out ++ [c.1]) ((bl c.2).drop 1) else .ok (out ++ [c.1], bl c.2)
def opT : Nat → List UInt8
  | 1 => [99, 114, 101, 97, 116, 101]
  | 2 => [100, 114, 111, 112]
  | 3 => [114, 101, 110, 97, 109, 101]
  | 4 => [97, 100, 100]
  | 5 => [99, 117, 116]
  | 6 => [99, 97, 108, 108]
  | 7 => [119, 105, 100, 101, 110]
  | 8 => [112, 114, 101, 115, 101, 116]
  | _ => []
/-- the change that a word begins; 0: none -/
def opW (w : List UInt8) : Nat := if w = opT 1 then 1 else if w = opT 2 then 2 else if w = opT 3 then 3 else if w = opT 4 then 4 else if w = opT 5 then 5 else if w = opT 6 then 6 else if w = opT 7 then 7 else if w = opT 8 then 8 else 0
def keyT : List UInt8 := [107, 101, 121]
def toT : List UInt8 := [116, 111]
def dp0 (o : Nat) (tb : List UInt8) : Dp := ⟨o, strB tb, strB [], strB [], strB [], 0, 0, false, 0, 0, strB [], []⟩
/-- what stands behind the table's name -/
noncomputable def pRest (o : Nat) (tb : List UInt8) (r : List UInt8) : Except Er (Dp × List UInt8) :=
  if o = 1 then (pSign 40 r).bind fun r => (pCols 10 [] r).bind fun c => (pSign 41 c.2).bind fun r => (pWord keyT r).bind fun r => (pName r).bind fun k => .ok ({ dp0 o tb with cols := c.1, key := strB k.1 }, k.2)
  else if o = 2 then .ok (dp0 o tb, r)
  else if o = 3 then (pWord toT r).bind fun r => (pName r).bind fun n => .ok ({ dp0 o tb with «to» := strB n.1 }, n.2)
  else if o = 4 then (pCol r).bind fun c => .ok ({ dp0 o tb with co := c.1.nm, tk := c.1.tk, tm := c.1.tm, nl := c.1.nl, dk := c.1.dk, dn := c.1.dn, ds := c.1.ds }, c.2)
  else if o = 5 then (pName r).bind fun n => .ok ({ dp0 o tb with co := strB n.1 }, n.2)
  else if o = 6 then (pName r).bind fun n => (pWord toT n.2).bind fun r => (pName r).bind fun m => .ok ({ dp0 o tb with co := strB n.1, «to» := strB m.1 }, m.2)
  else if o = 7 then (pName r).bind fun n => (pKind n.2).bind fun t => .ok ({ dp0 o tb with co := strB n.1, tk := t.1.1, tm := t.1.2 }, t.2)
  else (pName r).bind fun n => (pVal true n.2).bind fun v => .ok ({ dp0 o tb with co := strB n.1, dk := v.1.1, dn := v.1.2.1, ds := strB v.1.2.2 }, v.2)
noncomputable def pChange (r : List UInt8) : Except Er (Dp × List UInt8) :=
  if opW (wd (bl r)) = 0 then .error (bl r, 5) else (pName ((bl r).drop (wd (bl r)).length)).bind fun t => pRest (opW (wd (bl r))) t.1 t.2
noncomputable def pAll (l : List UInt8) : Except Er Dp := (pChange l).bind fun d => if bl d.2 = [] then .ok d.1 else .error (bl d.2, 6)

/-! ### The text -/
/-- a column with its blanks, and what stands behind it -/
def colX (B : List UInt8) (c : Cb) (r : List UInt8) : List UInt8 :=
  bs c.nm ++ (B ++ (prT c.tk c.tm ++ ((if c.nl = true then B ++ nullT else []) ++ ((if c.dk = 0 then [] else B ++ (defT ++ (B ++ prW c.dk c.dn (bs c.ds)))) ++ r))))
def colsX (B : List UInt8) : List Cb → List UInt8 → List UInt8
  | [], r => r
  | [c], r => colX B c r
  | c :: d :: q, r => colX B c (44 :: (B ++ colsX B (d :: q) r))
def dtx (B : List UInt8) (d : Dp) (r : List UInt8) : List UInt8 :=
  opT d.op.toNat ++ (B ++ (bs d.tb ++
    (if d.op = 1 then B ++ (40 :: colsX B d.cols (41 :: (B ++ (keyT ++ (B ++ (bs d.key ++ r))))))
     else if d.op = 2 then r
     else if d.op = 3 then B ++ (toT ++ (B ++ (bs d.to ++ r)))
     else if d.op = 4 then B ++ colX B ⟨0, d.co, d.tk, d.tm, d.nl, d.dk, d.dn, d.ds⟩ r
     else if d.op = 5 then B ++ (bs d.co ++ r)
     else if d.op = 6 then B ++ (bs d.co ++ (B ++ (toT ++ (B ++ (bs d.to ++ r)))))
     else if d.op = 7 then B ++ (bs d.co ++ (B ++ (prT d.tk d.tm ++ r)))
     else B ++ (bs d.co ++ (B ++ (prW d.dk d.dn (bs d.ds) ++ r))))))
/-- can a column be written? -/
def colOk (c : Cb) : Bool := rightN (bs c.nm) && (rightT c.tk c.tm && rightV c.dk c.dn (bs c.ds))
/-- can a change be written? -/
def canD (d : Dp) : Bool :=
  plainD d && (rightN (bs d.tb) &&
    (if d.op = 1 then (d.cols.all colOk) && (rightN (bs d.key) && (decide (1 ≤ d.cols.length) && decide (d.cols.length ≤ 10)))
     else if d.op = 2 then true
     else if d.op = 3 then rightN (bs d.to)
     else if d.op = 4 then rightN (bs d.co) && (rightT d.tk d.tm && rightV d.dk d.dn (bs d.ds))
     else if d.op = 5 then rightN (bs d.co)
     else if d.op = 6 then rightN (bs d.co) && rightN (bs d.to)
     else if d.op = 7 then rightN (bs d.co) && rightT d.tk d.tm
     else rightN (bs d.co) && rightV d.dk d.dn (bs d.ds)))
end Go.Proofs.YtebldfnocpcddaaGreatDoor

/-
  The text of a change (layer 10): what is written is parsed, whatever blanks stand in it; whatever is parsed can be written.
-/
namespace Go.Proofs.YtebldfnocpcddaaGreatDoor

/-- nothing of a word follows -/
def Ends (r : List UInt8) : Prop := ∀ c, r[0]? = some c → isN c = false
theorem Ends.nil : Ends [] := fun c h => by simp at h
theorem Ends.cons {c : UInt8} {r : List UInt8} (h : isN c = false) : Ends (c :: r) := fun x hx => by
  obtain rfl : c = x := by simpa using hx
  exact h
theorem isBl_N {c : UInt8} (h : isBl c = true) : isN c = false := by
  unfold isBl at h
  simp only [Bool.or_eq_true, decide_eq_true_eq] at h
  unfold isN isL
  have h1 : decide (97 ≤ c.toNat) = false := by simp; omega
  have h2 : decide (48 ≤ c.toNat) = false := by simp; omega
  have h3 : decide (c.toNat = 95) = false := by simp; omega
  rw [h1, h2, h3]; rfl
theorem isD_N {c : UInt8} (h : isN c = false) : isD c = false := by
  cases hd : isD c with
  | false => rfl
  | true =>
    rw [isD_iff] at hd
    unfold isN at h
    have h1 : decide (48 ≤ c.toNat) = true := by simp; omega
    have h2 : decide (c.toNat ≤ 57) = true := by simp; omega
    rw [h1, h2] at h
    simp at h
/-- blanks alone -/
def Sp (B : List UInt8) : Prop := ∀ c ∈ B, isBl c = true
theorem Sp.ends {B r : List UInt8} (h : Sp B) (hr : Ends r) : Ends (B ++ r) := by
  cases B with
  | nil => exact hr
  | cons c q => exact Ends.cons (isBl_N (h c (by simp)))
theorem Sp.ends1 {B r : List UInt8} (h : Sp B) (h0 : B ≠ []) : Ends (B ++ r) := by
  cases B with
  | nil => exact absurd rfl h0
  | cons c q => exact Ends.cons (isBl_N (h c (by simp)))
theorem bl_sp {r : List UInt8} : ∀ {B : List UInt8}, Sp B → bl (B ++ r) = bl r
  | [], _ => rfl
  | c :: q, h => by
    show List.dropWhile isBl (c :: (q ++ r)) = _
    rw [List.dropWhile_cons, if_pos (h c (by simp))]
    exact bl_sp fun x hx => h x (by simp [hx])
theorem bl_id {r : List UInt8} (h : ∀ c, r[0]? = some c → isBl c = false) : bl r = r := by
  cases r with
  | nil => rfl
  | cons c q =>
    show List.dropWhile isBl (c :: q) = _
    rw [List.dropWhile_cons, h c (by simp)]; rfl
theorem bl_cons {c : UInt8} {r : List UInt8} (h : isBl c = false) : bl (c :: r) = c :: r := bl_id fun x hx => by
  obtain rfl : c = x := by simpa using hx
  exact h
theorem bl_head {r : List UInt8} : ∀ c, (bl r)[0]? = some c → isBl c = false := by
  induction r with
  | nil => intro c h; simp [bl] at h
  | cons a q ih =>
    intro c h
    unfold bl at h
    rw [List.dropWhile_cons] at h
    cases ha : isBl a with
    | true => rw [ha, if_pos rfl] at h; exact ih c h
    | false =>
      rw [ha] at h
      obtain rfl : a = c := by simpa using h
      exact ha
theorem bl_bl (r : List UInt8) : bl (bl r) = bl r := bl_id bl_head
theorem bl_len (r : List UInt8) : (bl r).length ≤ r.length := (List.dropWhile_sublist _).length_le
/-- blanks ahead of a text that does not begin with one -/
theorem bl_tok {B t r : List UInt8} (hB : Sp B) {c : UInt8} (ht : t[0]? = some c) (hc : isBl c = false) : bl (B ++ (t ++ r)) = t ++ r := by
  rw [bl_sp hB]
  refine bl_id fun x hx => ?_
  cases t with
  | nil => simp at ht
  | cons a q =>
    obtain rfl : a = c := by simpa using ht
    obtain rfl : a = x := by simpa using hx
    exact hc
theorem isL_bl {c : UInt8} (h : isL c = true) : isBl c = false := by
  cases hb : isBl c with
  | false => rfl
  | true =>
    have := isBl_N hb
    rw [isN_of_isL h] at this; cases this
theorem runN_ends : ∀ (l : List UInt8) {r : List UInt8}, (∀ x ∈ l, isN x = true) → Ends r → runN (l ++ r) = l.length
  | [], r, _, hr => by
    cases r with
    | nil => rfl
    | cons c q => simp [runN, hr c (by simp)]
  | a :: l, r, h, hr => by
    have ha : isN a = true := h a (by simp)
    simp only [List.cons_append, runN, ha, if_true, List.length_cons]
    rw [runN_ends l (fun x hx => h x (by simp [hx])) hr]
/-- a word -/
def Wrd (w : List UInt8) : Prop := (∃ c, w[0]? = some c ∧ isL c = true) ∧ ∀ x ∈ w, isN x = true
theorem Wrd.of {w : List UInt8} (h : rightN w = true) : Wrd w := by
  refine ⟨?_, right_all h⟩
  have hl := right_len h
  simp only [rightN, Bool.and_eq_true, decide_eq_true_eq] at h
  cases w with
  | nil => simp at hl
  | cons c q =>
    refine ⟨c, rfl, ?_⟩
    cases hc : isL c with
    | true => rfl
    | false =>
      have h1 := h.2
      rw [rdN_cons (c := c) rfl, hc] at h1
      simp at h1
theorem wd_of {w r : List UInt8} (h : Wrd w) (hr : Ends r) : rdN (w ++ r) = w.length ∧ wd (w ++ r) = w := by
  obtain ⟨⟨c, hc, hl⟩, ha⟩ := h
  have h1 : rdN (w ++ r) = w.length := by
    rw [rdN_cons (c := c) (by cases w with | nil => simp at hc | cons a q => simpa using hc), if_pos hl]
    exact runN_ends w ha hr
  exact ⟨h1, by unfold wd; rw [h1, List.take_left]⟩
theorem Wrd.bl {w B r : List UInt8} (h : Wrd w) (hB : Sp B) : bl (B ++ (w ++ r)) = w ++ r := by
  obtain ⟨⟨c, hc, hl⟩, _⟩ := h
  exact bl_tok hB hc (isL_bl hl)
theorem Wrd.bl' {w r : List UInt8} (h : Wrd w) : Go.Proofs.YtebldfnocpcddaaGreatDoor.bl (w ++ r) = w ++ r := h.bl (B := []) (fun _ hx => by simp at hx)
/-- no word follows -/
theorem wd_no {r : List UInt8} (h : ∀ c, r[0]? = some c → isL c = false) : wd r = [] := by
  cases r with
  | nil => rfl
  | cons c q =>
    unfold wd
    rw [rdN_cons (c := c) rfl, h c rfl]; rfl
/-! ### What stands there is read -/
theorem pName_ok {r q nm : List UInt8} (h : bl r = nm ++ q) (hn : rightN nm = true) (hq : Ends q) : pName r = .ok (nm, q) := by
  have hw := (wd_of (Wrd.of hn) hq).2
  have h0 : nm ≠ [] := fun e => by have := (right_len hn).1; rw [e] at this; simp at this
  unfold pName
  rw [h, hw, if_neg h0, if_pos hn, List.drop_left]
theorem pWord_ok {r q w : List UInt8} (h : bl r = w ++ q) (hw : Wrd w) (hq : Ends q) : pWord w r = .ok q := by
  unfold pWord
  rw [h, (wd_of hw hq).2, if_pos rfl, List.drop_left]
theorem pSign_ok {r q : List UInt8} {c : UInt8} (h : bl r = c :: q) : pSign c r = .ok q := by
  unfold pSign
  rw [h]; exact if_pos rfl
/-- a type is read, with no part of a word behind it -/
theorem readT_ends {k m : Int} {q : List UInt8} (hr : rightT k m = true) (hq : Ends q) : readT (prT k m ++ q) = ((k, m), (prT k m).length, 0) := by
  rw [rightT_iff] at hr
  have str : ∀ (nm : List UInt8) (c : Nat), Wrd nm → kindL nm = c → (c = 3 ∨ c = 4) → 1 ≤ m → m ≤ 120 →
      readT (nm ++ (40 :: (dz m ++ (41 :: q)))) = (((c : Int), m), (nm ++ (40 :: (dz m ++ [41]))).length, 0) := by
    intro nm c hn hk hc h1 h2
    obtain ⟨hrd, ht⟩ := wd_of (r := 40 :: (dz m ++ (41 :: q))) hn (Ends.cons (by decide))
    unfold wd at ht
    have hd : (nm ++ (40 :: (dz m ++ (41 :: q)))).drop (rdN (nm ++ (40 :: (dz m ++ (41 :: q))))) = 40 :: (dz m ++ (41 :: q)) := by rw [hrd, List.drop_left]
    have hnum : numW ((40 :: (dz m ++ (41 :: q))).drop 1) = (m, (dz m).length, 0) := num_dz (by omega) (by omega) (fun x hx => by simp at hx; subst hx; decide)
    have hmx : rmaxW (40 :: (dz m ++ (41 :: q))) = (m, (dz m).length + 2, 0) := by
      rw [rmaxW_yes (by rfl) hnum]
      unfold rmax2
      rw [if_pos rfl, if_pos, if_pos ((maxK_iff m).2 ⟨h1, h2⟩)]
      rw [Nat.add_comm, List.getElem?_cons_succ, List.getElem?_append_right (Nat.le_refl _), Nat.sub_self]
      rfl
    have hmx' : rmaxW ((nm ++ (40 :: (dz m ++ (41 :: q)))).drop (rdN (nm ++ (40 :: (dz m ++ (41 :: q)))))) = (m, (dz m).length + 2, 0) := by rw [hd]; exact hmx
    rw [readT_s (c := c) (by rw [ht]; exact hk) hc hmx', hrd]
    unfold readT2
    rw [if_pos rfl]
    simp
  have one : ∀ (nm : List UInt8), Wrd nm → rdN (nm ++ q) = nm.length ∧ (nm ++ q).take (rdN (nm ++ q)) = nm := fun nm hn => wd_of hn hq
  have w1 : Wrd nmI := ⟨⟨_, rfl, by decide⟩, by decide⟩
  have w2 : Wrd nmL := ⟨⟨_, rfl, by decide⟩, by decide⟩
  have w3 : Wrd nmT := ⟨⟨_, rfl, by decide⟩, by decide⟩
  have w4 : Wrd nmB := ⟨⟨_, rfl, by decide⟩, by decide⟩
  rcases hr with ⟨rfl | rfl, rfl⟩ | ⟨rfl | rfl, h1, h2⟩
  · obtain ⟨a, b⟩ := one nmI w1
    show readT (nmI ++ q) = _
    rw [readT_1 (by rw [b]; decide), a]; rfl
  · obtain ⟨a, b⟩ := one nmL w2
    show readT (nmL ++ q) = _
    rw [readT_2 (by rw [b]; decide), a]; rfl
  · have h := str nmT 3 w3 (by decide) (.inl rfl) h1 h2
    show readT ((nmT ++ (40 :: (dz m ++ [41]))) ++ q) = _
    simp only [List.append_assoc, List.cons_append, List.nil_append] at h ⊢
    exact h
  · have h := str nmB 4 w4 (by decide) (.inr rfl) h1 h2
    show readT ((nmB ++ (40 :: (dz m ++ [41]))) ++ q) = _
    simp only [List.append_assoc, List.cons_append, List.nil_append] at h ⊢
    exact h
theorem pKind_ok {r q : List UInt8} {k m : Int} (h : bl r = prT k m ++ q) (hr : rightT k m = true) (hq : Ends q) : pKind r = .ok ((k, m), q) := by
  unfold pKind
  rw [h, readT_ends hr hq]
  show (if (0 : Nat) = 0 then _ else _) = _
  rw [if_pos rfl, List.drop_left]
/-- what is written is read, with no part of a word behind it -/
theorem readW_ends {k n : Int} {t : List UInt8} (hr : rightV k n t = true) (h1 : -9223372036854775808 ≤ n) (h2 : n < 9223372036854775808) {r : List UInt8} (hb : Ends r) :
    readW (prW k n t ++ r) = ((k, n, t), (prW k n t).length, 0) := by
  have hnum : numB (dz n ++ r) = true := by
    obtain ⟨c, q, hc, hc2⟩ := dn_head n.natAbs
    by_cases hn : n < 0
    · rw [dz_neg hn]; rfl
    · rw [dz_pos (by omega), hc]
      simp [numB, hc2]
  rcases rightV_cases k n t with ⟨rfl, hv⟩ | ⟨rfl, hv⟩ | ⟨rfl, hv⟩ | ⟨rfl, hv⟩ | ⟨rfl, hv⟩ | ⟨_, _, _, _, _, hv⟩
  · rw [hr] at hv
    simp only [Bool.true_eq, Bool.and_eq_true, decide_eq_true_eq] at hv
    obtain ⟨rfl, rfl⟩ := hv
    show readW (nullT ++ r) = _
    exact readW_null (wd_of (w := nullT) ⟨⟨_, rfl, by decide⟩, by decide⟩ hb).2
  · rw [hr] at hv
    simp only [Bool.true_eq, Bool.and_eq_true, decide_eq_true_eq] at hv
    obtain ⟨hf, rfl⟩ := hv
    show readW (dz n ++ r) = ((1, n, []), (dz n).length, 0)
    rw [readW_num hnum]
    unfold numR
    rw [num_dz h1 h2 (fun c hc => isD_N (hb c hc))]
    show numR2 _ n _ 0 = _
    unfold numR2
    rw [if_pos rfl, if_neg (by rw [List.getElem?_append_right (Nat.le_refl _), Nat.sub_self]; intro e; have := hb _ e; revert this; decide)]
    unfold resW inE
    rw [hf]; rfl
  · have h := print_read hr h1 h2 (r := []) (.inl rfl)
    rw [hr] at hv
    simp only [Bool.true_eq, decide_eq_true_eq] at hv
    subst hv
    show readW (dz n ++ [108] ++ r) = ((2, n, []), (dz n ++ [108]).length, 0)
    have hnum2 : numB (dz n ++ ([108] ++ r)) = true := by
      obtain ⟨c, q, hc, hc2⟩ := dn_head n.natAbs
      by_cases hn : n < 0
      · rw [dz_neg hn]; rfl
      · rw [dz_pos (by omega), hc]
        simp [numB, hc2]
    rw [List.append_assoc, readW_num hnum2]
    unfold numR
    rw [num_dz h1 h2 (fun c hc => by simp at hc; subst hc; decide)]
    show numR2 _ n _ 0 = _
    unfold numR2
    rw [if_pos rfl, if_pos (by rw [List.getElem?_append_right (Nat.le_refl _), Nat.sub_self]; rfl)]
    simp
  · rw [hr, Bool.and_assoc] at hv
    have hv2 := Bool.and_eq_true_iff.1 hv.symm
    obtain ⟨hn, ht⟩ := hv2
    have hn0 : n = 0 := of_decide_eq_true hn
    subst hn0
    show readW (qt t ++ r) = ((3, 0, t), (qt t).length, 0)
    rw [readW_txt rfl]
    unfold txtR
    rw [uq_yes (t := t) (r := r) rfl]
    rw [← txE_zero] at ht
    have ht0 : txE t = 0 := by simpa using ht
    show (if true = true then resW (3, 0, t) (qt t).length (txE t) else _) = _
    rw [if_pos rfl, ht0]; rfl
  · rw [hr] at hv
    have hv2 := Bool.and_eq_true_iff.1 hv.symm
    obtain ⟨hn, ht⟩ := hv2
    have hn0 : n = 0 := of_decide_eq_true hn
    subst hn0
    show readW (120 :: 34 :: (hxs t ++ [34]) ++ r) = ((4, 0, t), (120 :: 34 :: (hxs t ++ [34])).length, 0)
    rw [readW_byt rfl]
    unfold bytR
    have e : (120 :: 34 :: (hxs t ++ [34]) ++ r).drop 2 = hxs t ++ 34 :: r := by simp
    rw [e, uh_yes (t := t) (r := r) rfl]
    rw [← byE_zero] at ht
    have ht0 : byE t = 0 := by simpa using ht
    show (if true = true then resW (4, 0, t) ((hxs t).length + 3) (byE t) else _) = _
    rw [if_pos rfl, ht0]
    unfold resW
    rw [if_pos rfl]; simp
  · rw [hr] at hv; cases hv
theorem pVal_ok {r q t : List UInt8} {k n : Int} {null : Bool} (h : bl r = prW k n t ++ q) (hr : rightV k n t = true) (h1 : -9223372036854775808 ≤ n) (h2 : n < 9223372036854775808) (hk : k = 0 → null = true) (hq : Ends q) : pVal null r = .ok ((k, n, t), q) := by
  unfold pVal
  rw [h, readW_ends hr h1 h2 hq]
  show (if (0 : Nat) = 0 then _ else _) = _
  rw [if_pos rfl]
  show (if k = 0 ∧ null = false then _ else _) = _
  rw [if_neg (fun e => by rw [hk e.1] at e; cases e.2), List.drop_left]
end Go.Proofs.YtebldfnocpcddaaGreatDoor

/-
  The text of a change (layer 10): what is written is parsed as it was, whatever blanks stand in it.
-/
namespace Go.Proofs.YtebldfnocpcddaaGreatDoor

theorem strB_bs (s : ByteArray) : strB (bs s) = s := by
  cases s with
  | mk a => simp [strB, bs]
theorem bs_strB (l : List UInt8) : bs (strB l) = l := rfl
theorem strB_nil : strB [] = ByteArray.empty := rfl
theorem prT_head {k m : Int} : ∃ c, (prT k m)[0]? = some c ∧ isL c = true := by
  unfold prT
  split
  · exact ⟨_, rfl, by decide⟩
  · split
    · exact ⟨_, rfl, by decide⟩
    · split
      · exact ⟨_, rfl, by decide⟩
      · exact ⟨_, rfl, by decide⟩
theorem isD_bl {c : UInt8} (h : isD c = true) : isBl c = false := by
  cases hb : isBl c with
  | false => rfl
  | true => have := isD_N (isBl_N hb); rw [h] at this; cases this
theorem prW_head {k n : Int} {t : List UInt8} : ∃ c, (prW k n t)[0]? = some c ∧ isBl c = false := by
  have hz : ∀ r : List UInt8, ∃ c, (dz n ++ r)[0]? = some c ∧ isBl c = false := fun r => by
    obtain ⟨c, q, hc, hc2⟩ := dn_head n.natAbs
    by_cases hn : n < 0
    · rw [dz_neg hn]; exact ⟨45, rfl, by decide⟩
    · rw [dz_pos (by omega), hc]; exact ⟨c, rfl, isD_bl hc2⟩
  unfold prW
  split
  · have := hz []; rwa [List.append_nil] at this
  · split
    · exact hz [108]
    · split
      · exact ⟨34, rfl, by decide⟩
      · split
        · exact ⟨120, rfl, by decide⟩
        · exact ⟨110, rfl, by decide⟩
theorem prT_bl {B q : List UInt8} {k m : Int} (hB : Sp B) : bl (B ++ (prT k m ++ q)) = prT k m ++ q := by
  obtain ⟨c, hc, hl⟩ := prT_head (k := k) (m := m)
  exact bl_tok hB hc (isL_bl hl)
theorem prW_bl {B q t : List UInt8} {k n : Int} (hB : Sp B) : bl (B ++ (prW k n t ++ q)) = prW k n t ++ q := by
  obtain ⟨c, hc, hl⟩ := prW_head (k := k) (n := n) (t := t)
  exact bl_tok hB hc hl
theorem wNull : Wrd nullT := ⟨⟨_, rfl, by decide⟩, by decide⟩
theorem wDef : Wrd defT := ⟨⟨_, rfl, by decide⟩, by decide⟩
theorem wKey : Wrd keyT := ⟨⟨_, rfl, by decide⟩, by decide⟩
theorem wTo : Wrd toT := ⟨⟨_, rfl, by decide⟩, by decide⟩
/-- a column that is written is read -/
theorem pCol_ok {r q B : List UInt8} {c : Cb} (h : bl r = colX B c q) (hB : Sp B) (h0 : B ≠ []) (hc : colOk c = true) (hid : c.id = 0) (h64 : -9223372036854775808 ≤ c.dn ∧ c.dn < 9223372036854775808) (hq : Ends q) (hw : wd (bl q) = []) :
    ∃ q', pCol r = .ok (c, q') ∧ bl q' = bl q := by
  unfold colOk at hc
  simp only [Bool.and_eq_true] at hc
  obtain ⟨hn, ht, hv⟩ := hc
  unfold colX at h
  -- what stands behind the type
  obtain ⟨Y, hY⟩ : ∃ Y, (if c.dk = 0 then [] else B ++ (defT ++ (B ++ prW c.dk c.dn (bs c.ds)))) ++ q = Y := ⟨_, rfl⟩
  obtain ⟨X, hX⟩ : ∃ X, (if c.nl = true then B ++ nullT else []) = X := ⟨_, rfl⟩
  rw [hY, hX] at h
  have eY : Ends Y := by
    rw [← hY]
    split
    · exact hq
    · rw [List.append_assoc]; exact hB.ends1 h0
  have eX : Ends (X ++ Y) := by
    rw [← hX]
    split
    · rw [List.append_assoc]; exact hB.ends1 h0
    · exact eY
  have p1 := pName_ok h hn (hB.ends1 h0)
  have p2 := pKind_ok (r := B ++ (prT c.tk c.tm ++ (X ++ Y))) (prT_bl hB) ht eX
  have p3 : ∃ r3, pNull (X ++ Y) = (c.nl, r3) ∧ bl r3 = bl Y := by
    unfold pNull
    cases hnl : c.nl with
    | true =>
      rw [hnl, if_pos rfl] at hX
      have e : bl (X ++ Y) = nullT ++ Y := by rw [← hX, List.append_assoc]; exact wNull.bl hB
      rw [e, (wd_of wNull eY).2, if_pos rfl]
      exact ⟨Y, rfl, rfl⟩
    | false =>
      rw [hnl, if_neg (by decide)] at hX
      subst hX
      rw [List.nil_append]
      have e : wd (bl Y) ≠ nullT := by
        rw [← hY]
        split
        · rw [List.nil_append, hw]; decide
        · rw [List.append_assoc, List.append_assoc, wDef.bl hB, List.append_assoc, (wd_of wDef (hB.ends1 h0)).2]; decide
      rw [if_neg e]
      exact ⟨bl Y, rfl, bl_bl Y⟩
  obtain ⟨r3, p3, p3b⟩ := p3
  have p4 : ∃ q', pDef r3 = .ok ((c.dk, c.dn, bs c.ds), q') ∧ bl q' = bl q := by
    unfold pDef
    rw [p3b, ← hY]
    by_cases hk : c.dk = 0
    · rw [if_pos hk, List.nil_append, hw, if_neg (by decide)]
      rcases rightV_cases c.dk c.dn (bs c.ds) with ⟨_, e⟩ | ⟨e, _⟩ | ⟨e, _⟩ | ⟨e, _⟩ | ⟨e, _⟩ | ⟨e, _⟩
      · rw [hv] at e
        simp only [Bool.true_eq, Bool.and_eq_true, decide_eq_true_eq] at e
        rw [hk, e.1, e.2]
        exact ⟨bl q, rfl, bl_bl q⟩
      · omega
      · omega
      · omega
      · omega
      · exact absurd hk e
    · rw [if_neg hk]
      have e1 : bl ((B ++ (defT ++ (B ++ prW c.dk c.dn (bs c.ds)))) ++ q) = defT ++ (B ++ (prW c.dk c.dn (bs c.ds) ++ q)) := by
        simp only [List.append_assoc]
        exact wDef.bl hB
      rw [e1, (wd_of wDef (hB.ends1 h0)).2, if_pos rfl]
      have e2 : (defT ++ (B ++ (prW c.dk c.dn (bs c.ds) ++ q))).drop 7 = B ++ (prW c.dk c.dn (bs c.ds) ++ q) := rfl
      rw [e2]
      exact ⟨q, pVal_ok (prW_bl hB) hv h64.1 h64.2 (fun e => absurd e hk) hq, rfl⟩
  obtain ⟨q', p4, p4b⟩ := p4
  refine ⟨q', ?_, p4b⟩
  unfold pCol
  rw [p1]
  show (pKind (B ++ (prT c.tk c.tm ++ (X ++ Y)))).bind _ = _
  rw [p2]
  show (pDef (pNull (X ++ Y)).2).bind _ = _
  rw [p3]
  show (pDef r3).bind _ = _
  rw [p4]
  show Except.ok ((⟨0, strB (bs c.nm), c.tk, c.tm, c.nl, c.dk, c.dn, strB (bs c.ds)⟩ : Cb), q') = _
  rw [strB_bs, strB_bs, ← hid]
theorem colX_bl {B q : List UInt8} {c : Cb} {A : List UInt8} (hA : Sp A) (hc : colOk c = true) : bl (A ++ colX B c q) = colX B c q := by
  unfold colOk at hc
  simp only [Bool.and_eq_true] at hc
  exact (Wrd.of hc.1).bl hA
theorem colsX_bl {B q A : List UInt8} {c : Cb} {l : List Cb} (hA : Sp A) (hc : colOk c = true) : bl (A ++ colsX B (c :: l) q) = colsX B (c :: l) q := by
  cases l with
  | nil => exact colX_bl hA hc
  | cons d l => exact colX_bl hA hc
theorem sp_nil : Sp [] := fun _ h => by simp at h
theorem pCols_ok {q B : List UInt8} (hB : Sp B) (h0 : B ≠ []) (hq : Ends q) (hw : wd (bl q) = []) (h44 : (bl q)[0]? ≠ some 44) : ∀ (l : List Cb) (c : Cb) (k : Nat) (out : List Cb) (r : List UInt8), bl r = colsX B (c :: l) q → l.length < k →
    (∀ x ∈ c :: l, colOk x = true ∧ x.id = 0 ∧ -9223372036854775808 ≤ x.dn ∧ x.dn < 9223372036854775808) → ∃ q', pCols k out r = .ok (out ++ (c :: l), q') ∧ bl q' = bl q
  | [], c, k + 1, out, r, h, _, hc => by
    obtain ⟨a1, a2, a3⟩ := hc c (by simp)
    obtain ⟨q', e1, e2⟩ := pCol_ok (r := bl r) (by rw [bl_bl]; exact h) hB h0 a1 a2 a3 hq hw
    refine ⟨bl q', ?_, by rw [bl_bl, e2]⟩
    unfold pCols
    rw [e1]
    show (if (bl q')[0]? = some 44 then _ else _) = _
    rw [e2, if_neg h44]
  | d :: l, c, k + 1, out, r, h, hk, hc => by
    obtain ⟨a1, a2, a3⟩ := hc c (by simp)
    have e44 : bl (44 :: (B ++ colsX B (d :: l) q)) = 44 :: (B ++ colsX B (d :: l) q) := bl_cons (by decide)
    obtain ⟨q', e1, e2⟩ := pCol_ok (q := 44 :: (B ++ colsX B (d :: l) q)) (r := bl r) (by rw [bl_bl]; exact h) hB h0 a1 a2 a3 (Ends.cons (by decide)) (by rw [e44]; exact wd_no fun x hx => by simp at hx; subst hx; decide)
    rw [e44] at e2
    have ih := pCols_ok hB h0 hq hw h44 l d k (out ++ [c]) (B ++ colsX B (d :: l) q) (colsX_bl hB (hc d (by simp)).1) (by simp at hk; omega) (fun x hx => hc x (by simp at hx ⊢; exact .inr hx))
    obtain ⟨q2, i1, i2⟩ := ih
    refine ⟨q2, ?_, i2⟩
    unfold pCols
    rw [e1]
    show (if (bl q')[0]? = some 44 then pCols k (out ++ [c]) ((bl q').drop 1) else _) = _
    rw [e2, if_pos (show (44 :: (B ++ colsX B (d :: l) q))[0]? = some 44 from rfl)]
    show pCols k (out ++ [c]) (B ++ colsX B (d :: l) q) = _
    rw [i1]
    simp
theorem empS_iff {s : ByteArray} : emp s = true ↔ s = strB [] := eqS_iff
theorem nulV_iff {k n : Int} {s : ByteArray} : nulV k n s = true ↔ k = 0 ∧ n = 0 ∧ s = strB [] := by
  unfold nulV
  rw [Bool.and_eq_true, Bool.and_eq_true, eqS_iff, beq_iff_eq, beq_iff_eq]; rfl
theorem opT_wrd {o : Nat} (h : 1 ≤ o ∧ o ≤ 8) : Wrd (opT o) ∧ opW (opT o) = o := by
  rcases (show o = 1 ∨ o = 2 ∨ o = 3 ∨ o = 4 ∨ o = 5 ∨ o = 6 ∨ o = 7 ∨ o = 8 by omega) with e | e | e | e | e | e | e | e <;> subst e <;> exact ⟨⟨⟨_, rfl, by decide⟩, by decide⟩, by decide⟩
set_option maxHeartbeats 1000000 in
/-- what is written is parsed -/
theorem pAll_ok {B b0 b1 : List UInt8} {d : Dp} (hB : Sp B) (h0 : B ≠ []) (hb0 : Sp b0) (hb1 : Sp b1) (hc : canD d = true) (h64 : -9223372036854775808 ≤ d.dn ∧ d.dn < 9223372036854775808) (hc64 : ∀ c ∈ d.cols, -9223372036854775808 ≤ c.dn ∧ c.dn < 9223372036854775808) :
    pAll (b0 ++ dtx B d b1) = .ok d := by
  obtain ⟨op, tb, co, «to», key, tk, tm, nl, dk, dn, ds, cols⟩ := d
  unfold canD at hc
  rw [Bool.and_eq_true, Bool.and_eq_true] at hc
  obtain ⟨hp, ht, hr⟩ := hc
  dsimp only at ht hr h64 hc64
  have hop := plainD_op hp
  dsimp only at hop
  obtain ⟨o, rfl⟩ : ∃ o : Nat, op = (o : Int) := ⟨op.toNat, by omega⟩
  have ho : 1 ≤ o ∧ o ≤ 8 := by omega
  obtain ⟨hwo, hoo⟩ := opT_wrd ho
  have be : bl b1 = [] := by have := bl_sp (r := []) hb1; rw [List.append_nil] at this; exact this
  have e1 : Ends b1 := by have := hb1.ends Ends.nil; rwa [List.append_nil] at this
  -- what stands behind the table's name
  obtain ⟨R, hR⟩ : ∃ R, (if (o : Int) = 1 then B ++ (40 :: colsX B cols (41 :: (B ++ (keyT ++ (B ++ (bs key ++ b1))))))
     else if (o : Int) = 2 then b1
     else if (o : Int) = 3 then B ++ (toT ++ (B ++ (bs «to» ++ b1)))
     else if (o : Int) = 4 then B ++ colX B ⟨0, co, tk, tm, nl, dk, dn, ds⟩ b1
     else if (o : Int) = 5 then B ++ (bs co ++ b1)
     else if (o : Int) = 6 then B ++ (bs co ++ (B ++ (toT ++ (B ++ (bs «to» ++ b1)))))
     else if (o : Int) = 7 then B ++ (bs co ++ (B ++ (prT tk tm ++ b1)))
     else B ++ (bs co ++ (B ++ (prW dk dn (bs ds) ++ b1)))) = R := ⟨_, rfl⟩
  have hx : dtx B ⟨o, tb, co, «to», key, tk, tm, nl, dk, dn, ds, cols⟩ b1 = opT o ++ (B ++ (bs tb ++ R)) := by
    unfold dtx
    dsimp only
    rw [hR]
    rfl
  have eR : Ends R := by
    rw [← hR]
    split
    · exact hB.ends1 h0
    · split
      · exact e1
      · split
        · exact hB.ends1 h0
        · split
          · exact hB.ends1 h0
          · split
            · exact hB.ends1 h0
            · split
              · exact hB.ends1 h0
              · split
                · exact hB.ends1 h0
                · exact hB.ends1 h0
  have main : ∃ q', pRest o (bs tb) R = .ok (⟨o, tb, co, «to», key, tk, tm, nl, dk, dn, ds, cols⟩, q') ∧ bl q' = [] := by
    unfold plainD at hp
    simp only [] at hp
    rcases (show o = 1 ∨ o = 2 ∨ o = 3 ∨ o = 4 ∨ o = 5 ∨ o = 6 ∨ o = 7 ∨ o = 8 by omega) with e | e | e | e | e | e | e | e
    · subst e
      simp [empS_iff, zTy, zDf, nulV_iff] at hp hr hR
      obtain ⟨rfl, rfl, ⟨rfl, rfl⟩, rfl, ⟨rfl, rfl, rfl⟩, hids⟩ := hp
      obtain ⟨hcs, hk, hl1, hl2⟩ := hr
      subst hR
      cases cols with
      | nil => simp at hl1
      | cons c l =>
        have hall : ∀ x ∈ c :: l, colOk x = true ∧ x.id = 0 ∧ -9223372036854775808 ≤ x.dn ∧ x.dn < 9223372036854775808 := fun x hx => ⟨by simpa using hcs x hx, hids x hx, hc64 x hx⟩
        have q1 : pSign 40 (B ++ 40 :: colsX B (c :: l) (41 :: (B ++ (keyT ++ (B ++ (bs key ++ b1)))))) = .ok (colsX B (c :: l) (41 :: (B ++ (keyT ++ (B ++ (bs key ++ b1)))))) := pSign_ok (by rw [bl_sp hB]; exact bl_cons (by decide))
        have e41 : bl (41 :: (B ++ (keyT ++ (B ++ (bs key ++ b1))))) = 41 :: (B ++ (keyT ++ (B ++ (bs key ++ b1)))) := bl_cons (by decide)
        obtain ⟨q', q2, q2b⟩ := pCols_ok (q := 41 :: (B ++ (keyT ++ (B ++ (bs key ++ b1))))) hB h0 (Ends.cons (by decide)) (by rw [e41]; exact wd_no fun x hx => by simp at hx; subst hx; decide) (by rw [e41]; simp) l c 10 [] (colsX B (c :: l) (41 :: (B ++ (keyT ++ (B ++ (bs key ++ b1)))))) (by have := colsX_bl (B := B) (q := 41 :: (B ++ (keyT ++ (B ++ (bs key ++ b1))))) (l := l) sp_nil (hall c (by simp)).1; exact this) (by simp at hl2; omega) hall
        rw [e41] at q2b
        have q3 := pSign_ok q2b
        have q4 := pWord_ok (r := B ++ (keyT ++ (B ++ (bs key ++ b1)))) (wKey.bl hB) wKey (hB.ends1 h0)
        have q5 := pName_ok (r := B ++ (bs key ++ b1)) ((Wrd.of hk).bl hB) hk e1
        refine ⟨b1, ?_, be⟩
        unfold pRest
        rw [if_pos rfl, q1]
        show (pCols 10 [] _).bind _ = _
        rw [q2]
        show (pSign 41 q').bind _ = _
        rw [q3]
        show (pWord keyT _).bind _ = _
        rw [q4]
        show (pName _).bind _ = _
        rw [q5]
        show Except.ok (({ dp0 1 (bs tb) with cols := [] ++ (c :: l), key := strB (bs key) } : Dp), b1) = _
        rw [strB_bs]
        unfold dp0
        rw [strB_bs]
        rfl
    · subst e
      simp [empS_iff, zTy, zDf, nulV_iff, zCo] at hp hr hR
      obtain ⟨rfl, rfl, rfl, ⟨rfl, rfl⟩, rfl, ⟨rfl, rfl, rfl⟩, rfl⟩ := hp
      subst hR
      refine ⟨b1, ?_, be⟩
      unfold pRest dp0
      rw [strB_bs]
      rfl
    · subst e
      simp [empS_iff, zTy, zDf, nulV_iff, zCo] at hp hr hR
      obtain ⟨rfl, rfl, ⟨rfl, rfl⟩, rfl, ⟨rfl, rfl, rfl⟩, rfl⟩ := hp
      subst hR
      have q4 := pWord_ok (r := B ++ (toT ++ (B ++ (bs «to» ++ b1)))) (wTo.bl hB) wTo (hB.ends1 h0)
      have q5 := pName_ok (r := B ++ (bs «to» ++ b1)) ((Wrd.of hr).bl hB) hr e1
      refine ⟨b1, ?_, be⟩
      unfold pRest
      rw [if_neg (by decide), if_neg (by decide), if_pos rfl, q4]
      show (pName _).bind _ = _
      rw [q5]
      show Except.ok (({ dp0 3 (bs tb) with «to» := strB (bs «to») } : Dp), b1) = _
      rw [strB_bs]
      unfold dp0
      rw [strB_bs]
      try rfl
    · subst e
      simp [empS_iff, zCo] at hp hr hR
      obtain ⟨rfl, rfl, rfl⟩ := hp
      subst hR
      have hk : colOk ⟨0, co, tk, tm, nl, dk, dn, ds⟩ = true := by unfold colOk; simp [hr]
      obtain ⟨q', q1, q2⟩ := pCol_ok (r := B ++ colX B ⟨0, co, tk, tm, nl, dk, dn, ds⟩ b1) (q := b1) (colX_bl hB hk) hB h0 hk rfl h64 e1 (by rw [be]; rfl)
      refine ⟨q', ?_, by rw [q2, be]⟩
      unfold pRest
      rw [if_neg (by decide), if_neg (by decide), if_neg (by decide), if_pos rfl, q1]
      show Except.ok (({ dp0 4 (bs tb) with co := co, tk := tk, tm := tm, nl := nl, dk := dk, dn := dn, ds := ds } : Dp), q') = _
      unfold dp0
      rw [strB_bs]
      try rfl
    · subst e
      simp [empS_iff, zTy, zDf, nulV_iff, zCo] at hp hr hR
      obtain ⟨rfl, rfl, ⟨rfl, rfl⟩, rfl, ⟨rfl, rfl, rfl⟩, rfl⟩ := hp
      subst hR
      have q5 := pName_ok (r := B ++ (bs co ++ b1)) ((Wrd.of hr).bl hB) hr e1
      refine ⟨b1, ?_, be⟩
      unfold pRest
      rw [if_neg (by decide), if_neg (by decide), if_neg (by decide), if_neg (by decide), if_pos rfl, q5]
      show Except.ok (({ dp0 5 (bs tb) with co := strB (bs co) } : Dp), b1) = _
      rw [strB_bs]
      unfold dp0
      rw [strB_bs]
      try rfl
    · subst e
      simp [empS_iff, zTy, zDf, nulV_iff, zCo] at hp hr hR
      obtain ⟨rfl, ⟨rfl, rfl⟩, rfl, ⟨rfl, rfl, rfl⟩, rfl⟩ := hp
      obtain ⟨hr1, hr2⟩ := hr
      subst hR
      have q3 := pName_ok (r := B ++ (bs co ++ (B ++ (toT ++ (B ++ (bs «to» ++ b1)))))) ((Wrd.of hr1).bl hB) hr1 (hB.ends1 h0)
      have q4 := pWord_ok (r := B ++ (toT ++ (B ++ (bs «to» ++ b1)))) (wTo.bl hB) wTo (hB.ends1 h0)
      have q5 := pName_ok (r := B ++ (bs «to» ++ b1)) ((Wrd.of hr2).bl hB) hr2 e1
      refine ⟨b1, ?_, be⟩
      unfold pRest
      rw [if_neg (by decide), if_neg (by decide), if_neg (by decide), if_neg (by decide), if_neg (by decide), if_pos rfl, q3]
      show (pWord toT _).bind _ = _
      rw [q4]
      show (pName _).bind _ = _
      rw [q5]
      show Except.ok (({ dp0 6 (bs tb) with co := strB (bs co), «to» := strB (bs «to») } : Dp), b1) = _
      rw [strB_bs, strB_bs]
      unfold dp0
      rw [strB_bs]
      try rfl
    · subst e
      simp [empS_iff, zDf, nulV_iff, zCo] at hp hr hR
      obtain ⟨rfl, rfl, rfl, ⟨rfl, rfl, rfl⟩, rfl⟩ := hp
      obtain ⟨hr1, hr2⟩ := hr
      subst hR
      have q3 := pName_ok (r := B ++ (bs co ++ (B ++ (prT tk tm ++ b1)))) ((Wrd.of hr1).bl hB) hr1 (hB.ends1 h0)
      have q4 := pKind_ok (r := B ++ (prT tk tm ++ b1)) (prT_bl hB) hr2 e1
      refine ⟨b1, ?_, be⟩
      unfold pRest
      rw [if_neg (by decide), if_neg (by decide), if_neg (by decide), if_neg (by decide), if_neg (by decide), if_neg (by decide), if_pos rfl, q3]
      show (pKind _).bind _ = _
      rw [q4]
      show Except.ok (({ dp0 7 (bs tb) with co := strB (bs co), tk := tk, tm := tm } : Dp), b1) = _
      rw [strB_bs]
      unfold dp0
      rw [strB_bs]
      try rfl
    · subst e
      simp [empS_iff, zTy, zCo] at hp hr hR
      obtain ⟨rfl, rfl, ⟨rfl, rfl⟩, rfl, rfl⟩ := hp
      obtain ⟨hr1, hr2⟩ := hr
      subst hR
      have q3 := pName_ok (r := B ++ (bs co ++ (B ++ (prW dk dn (bs ds) ++ b1)))) ((Wrd.of hr1).bl hB) hr1 (hB.ends1 h0)
      have q4 := pVal_ok (r := B ++ (prW dk dn (bs ds) ++ b1)) (null := true) (prW_bl hB) hr2 h64.1 h64.2 (fun _ => rfl) e1
      refine ⟨b1, ?_, be⟩
      unfold pRest
      rw [if_neg (by decide), if_neg (by decide), if_neg (by decide), if_neg (by decide), if_neg (by decide), if_neg (by decide), if_neg (by decide), q3]
      show (pVal true _).bind _ = _
      rw [q4]
      show Except.ok (({ dp0 8 (bs tb) with co := strB (bs co), dk := dk, dn := dn, ds := strB (bs ds) } : Dp), b1) = _
      rw [strB_bs, strB_bs]
      unfold dp0
      rw [strB_bs]
      try rfl
  obtain ⟨q', m1, m2⟩ := main
  unfold pAll pChange
  rw [hx, hwo.bl hb0, (wd_of hwo (hB.ends1 h0)).2, hoo, if_neg (by omega), List.drop_left, pName_ok ((Wrd.of ht).bl hB) ht eR]
  show ((pRest o (bs tb) R).bind _) = _
  rw [m1]
  show (if bl q' = [] then _ else _) = _
  rw [if_pos m2]
end Go.Proofs.YtebldfnocpcddaaGreatDoor

/-
  The text of a change (layer 10): whatever is parsed can be written, and is parsed again from that; unlike changes have unlike texts.
-/
namespace Go.Proofs.YtebldfnocpcddaaGreatDoor

theorem bind_ok {α β : Type} {x : Except Er α} {f : α → Except Er β} {b : β} (h : x.bind f = .ok b) : ∃ a, x = .ok a ∧ f a = .ok b := by
  cases x with
  | error e => cases h
  | ok a => exact ⟨a, rfl, h⟩
theorem pName_back {r : List UInt8} {n : List UInt8 × List UInt8} (h : pName r = .ok n) : rightN n.1 = true := by
  unfold pName at h
  split at h
  · cases h
  · split at h
    · rename_i hn
      cases h
      exact hn
    · cases h
theorem readT_back {l : List UInt8} {t : (Int × Int) × Nat × Nat} (h : readT l = t) (he : t.2.2 = 0) : rightT t.1.1 t.1.2 = true := by
  subst h
  obtain ⟨c, hc⟩ : ∃ c, kindL (l.take (rdN l)) = c := ⟨_, rfl⟩
  have hlt : c = 0 ∨ c = 1 ∨ c = 2 ∨ c = 3 ∨ c = 4 := by
    rcases kindL_cases (l.take (rdN l)) with ⟨_, e⟩ | ⟨_, e⟩ | ⟨_, e⟩ | ⟨_, e⟩ | ⟨_, _, _, _, e⟩ <;> omega
  rcases hlt with e | e | e | e | e
  · subst e; rw [readT_0 hc] at he; cases he
  · subst e; rw [readT_1 hc]; show rightT 1 0 = true; decide
  · subst e; rw [readT_2 hc]; show rightT 2 0 = true; decide
  all_goals
    obtain ⟨⟨m, k, e2⟩, hm⟩ : ∃ r, rmaxW (l.drop (rdN l)) = r := ⟨_, rfl⟩
    rw [readT_s hc (by omega) hm] at he ⊢
    unfold readT2 at he ⊢
    by_cases h0 : e2 = 0
    · subst h0
      rw [if_pos rfl]
      obtain ⟨h1, h2, _⟩ := rmaxW_ok hm
      subst e
      exact (rightT_iff _ _).2 (.inr ⟨by first | exact .inl rfl | exact .inr rfl, h1, h2⟩)
    · rw [if_neg h0] at he
      exact absurd he h0
theorem pKind_back {r : List UInt8} {t : (Int × Int) × List UInt8} (h : pKind r = .ok t) : rightT t.1.1 t.1.2 = true := by
  unfold pKind at h
  split at h
  · rename_i he
    cases h
    exact readT_back rfl he
  · cases h
/-- a value that may stand in a change -/
def ValOk (v : Val) : Prop := rightV v.1 v.2.1 v.2.2 = true ∧ -9223372036854775808 ≤ v.2.1 ∧ v.2.1 < 9223372036854775808
theorem pVal_back {null : Bool} {r : List UInt8} {v : Val × List UInt8} (h : pVal null r = .ok v) : ValOk v.1 := by
  unfold pVal at h
  split at h
  · rename_i he
    split at h
    · cases h
    · cases h
      obtain ⟨⟨⟨k, n, t⟩, m, e⟩, hr⟩ : ∃ x, readW (bl r) = x := ⟨_, rfl⟩
      rw [hr] at he ⊢
      dsimp only at he
      subst he
      obtain ⟨h1, _, _, h2, h3⟩ := read_back hr
      exact ⟨h1, h2, h3⟩
  · cases h
theorem pDef_back {r : List UInt8} {v : Val × List UInt8} (h : pDef r = .ok v) : ValOk v.1 := by
  unfold pDef at h
  split at h
  · exact pVal_back h
  · cases h
    exact (show ValOk (0, 0, []) from ⟨by decide, by decide, by decide⟩)
theorem pCol_back {r : List UInt8} {c : Cb × List UInt8} (h : pCol r = .ok c) : colOk c.1 = true ∧ c.1.id = 0 ∧ -9223372036854775808 ≤ c.1.dn ∧ c.1.dn < 9223372036854775808 := by
  unfold pCol at h
  obtain ⟨n, hn, h⟩ := bind_ok h
  obtain ⟨t, ht, h⟩ := bind_ok h
  obtain ⟨v, hv, h⟩ := bind_ok h
  cases h
  have h1 := pName_back hn
  have h2 := pKind_back ht
  have h3 := pDef_back hv
  refine ⟨?_, rfl, h3.2⟩
  unfold colOk
  simp only [bs_strB, h1, h2, h3.1, Bool.and_self]
theorem pCols_back : ∀ {k : Nat} {out : List Cb} {r : List UInt8} {c : List Cb × List UInt8}, pCols k out r = .ok c → (∀ x ∈ out, colOk x = true ∧ x.id = 0 ∧ -9223372036854775808 ≤ x.dn ∧ x.dn < 9223372036854775808) →
    (∀ x ∈ c.1, colOk x = true ∧ x.id = 0 ∧ -9223372036854775808 ≤ x.dn ∧ x.dn < 9223372036854775808) ∧ 1 ≤ c.1.length ∧ c.1.length ≤ out.length + k
  | 0, out, r, c, h, _ => by unfold pCols at h; cases h
  | k + 1, out, r, c, h, ho => by
    unfold pCols at h
    obtain ⟨x, hx, h⟩ := bind_ok h
    have hb := pCol_back hx
    have ho2 : ∀ y ∈ out ++ [x.1], colOk y = true ∧ y.id = 0 ∧ -9223372036854775808 ≤ y.dn ∧ y.dn < 9223372036854775808 := fun y hy => by
      rcases List.mem_append.1 hy with e | e
      · exact ho y e
      · obtain rfl : y = x.1 := by simpa using e
        exact hb
    split at h
    · obtain ⟨a, b, d⟩ := pCols_back h ho2
      exact ⟨a, b, by simp at d; omega⟩
    · cases h
      exact ⟨ho2, by simp, by simp⟩
theorem z64 : (-9223372036854775808 : Int) ≤ 0 ∧ (0 : Int) < 9223372036854775808 := ⟨by decide, by decide⟩
/-- whatever is parsed can be written -/
theorem pAll_back {l : List UInt8} {d : Dp} (h : pAll l = .ok d) : canD d = true ∧ (-9223372036854775808 ≤ d.dn ∧ d.dn < 9223372036854775808) ∧ ∀ c ∈ d.cols, -9223372036854775808 ≤ c.dn ∧ c.dn < 9223372036854775808 := by
  unfold pAll at h
  obtain ⟨⟨x, q⟩, hx, h⟩ := bind_ok h
  by_cases hq : bl q = []
  case neg =>
    rw [if_neg hq] at h
    cases h
  rw [if_pos hq] at h
  cases h
  unfold pChange at hx
  split at hx
  · cases hx
  rename_i hne
  obtain ⟨t, ht, hx⟩ := bind_ok hx
  have hT := pName_back ht
  obtain ⟨o, ho⟩ : ∃ o, opW (wd (bl l)) = o := ⟨_, rfl⟩
  rw [ho] at hx hne
  have hle : o ≤ 8 := by
    rw [← ho]
    unfold opW
    repeat' split
    all_goals omega
  have hz : emp (strB []) = true := empS_iff.2 rfl
  have hn0 : nulV 0 0 (strB []) = true := nulV_iff.2 ⟨rfl, rfl, rfl⟩
  unfold pRest at hx
  rcases (show o = 1 ∨ o = 2 ∨ o = 3 ∨ o = 4 ∨ o = 5 ∨ o = 6 ∨ o = 7 ∨ o = 8 by omega) with e | e | e | e | e | e | e | e
  · subst e
    rw [if_pos rfl] at hx
    obtain ⟨r1, h1, hx⟩ := bind_ok hx
    obtain ⟨c, h2, hx⟩ := bind_ok hx
    obtain ⟨r3, h3, hx⟩ := bind_ok hx
    obtain ⟨r4, h4, hx⟩ := bind_ok hx
    obtain ⟨k, h5, hx⟩ := bind_ok hx
    cases hx
    obtain ⟨a, b, c10⟩ := pCols_back h2 (by simp)
    have hk := pName_back h5
    refine ⟨?_, z64, fun y hy => (a y hy).2.2⟩
    unfold canD plainD dp0
    simp only [List.length_nil] at c10
    have e1 : c.1.all colOk = true := List.all_eq_true.2 fun y hy => (a y hy).1
    have e2 : (c.1.all fun y => y.id == 0) = true := List.all_eq_true.2 fun y hy => by simp [(a y hy).2.1]
    simp [zTy, zDf, hz, hn0, bs_strB, hT, hk, e1, e2]
    omega
  · subst e
    rw [if_neg (by decide), if_pos rfl] at hx
    cases hx
    refine ⟨?_, z64, by simp [dp0]⟩
    unfold canD plainD dp0
    simp [zTy, zDf, zCo, hz, hn0, bs_strB, hT]
  · subst e
    rw [if_neg (by decide), if_neg (by decide), if_pos rfl] at hx
    obtain ⟨r1, h1, hx⟩ := bind_ok hx
    obtain ⟨n, h2, hx⟩ := bind_ok hx
    cases hx
    have hk := pName_back h2
    refine ⟨?_, z64, by simp [dp0]⟩
    unfold canD plainD dp0
    simp [zTy, zDf, zCo, hz, hn0, bs_strB, hT, hk]
  · subst e
    rw [if_neg (by decide), if_neg (by decide), if_neg (by decide), if_pos rfl] at hx
    obtain ⟨c, h1, hx⟩ := bind_ok hx
    cases hx
    obtain ⟨a, _, b⟩ := pCol_back h1
    refine ⟨?_, b, by simp [dp0]⟩
    unfold colOk at a
    simp only [Bool.and_eq_true] at a
    unfold canD plainD dp0
    simp [zCo, hz, bs_strB, hT, a]
  · subst e
    rw [if_neg (by decide), if_neg (by decide), if_neg (by decide), if_neg (by decide), if_pos rfl] at hx
    obtain ⟨n, h2, hx⟩ := bind_ok hx
    cases hx
    have hk := pName_back h2
    refine ⟨?_, z64, by simp [dp0]⟩
    unfold canD plainD dp0
    simp [zTy, zDf, zCo, hz, hn0, bs_strB, hT, hk]
  · subst e
    rw [if_neg (by decide), if_neg (by decide), if_neg (by decide), if_neg (by decide), if_neg (by decide), if_pos rfl] at hx
    obtain ⟨n, h2, hx⟩ := bind_ok hx
    obtain ⟨r1, h1, hx⟩ := bind_ok hx
    obtain ⟨m, h3, hx⟩ := bind_ok hx
    cases hx
    have hk := pName_back h2
    have hm := pName_back h3
    refine ⟨?_, z64, by simp [dp0]⟩
    unfold canD plainD dp0
    simp [zTy, zDf, zCo, hz, hn0, bs_strB, hT, hk, hm]
  · subst e
    rw [if_neg (by decide), if_neg (by decide), if_neg (by decide), if_neg (by decide), if_neg (by decide), if_neg (by decide), if_pos rfl] at hx
    obtain ⟨n, h2, hx⟩ := bind_ok hx
    obtain ⟨t2, h1, hx⟩ := bind_ok hx
    cases hx
    have hk := pName_back h2
    have hm := pKind_back h1
    refine ⟨?_, z64, by simp [dp0]⟩
    unfold canD plainD dp0
    simp [zDf, zCo, hz, hn0, bs_strB, hT, hk, hm]
  · subst e
    rw [if_neg (by decide), if_neg (by decide), if_neg (by decide), if_neg (by decide), if_neg (by decide), if_neg (by decide), if_neg (by decide)] at hx
    obtain ⟨n, h2, hx⟩ := bind_ok hx
    obtain ⟨v, h1, hx⟩ := bind_ok hx
    cases hx
    have hk := pName_back h2
    have hm := pVal_back h1
    refine ⟨?_, hm.2, by simp [dp0]⟩
    unfold canD plainD dp0
    simp [zTy, zCo, hz, bs_strB, hT, hk, hm.1]
/-- a blank -/
theorem sp32 : Sp [32] := fun c hc => by
  obtain rfl : c = 32 := by simpa using hc
  decide
/-- whatever is parsed is parsed again from its text -/
theorem pAll_again {l : List UInt8} {d : Dp} (h : pAll l = .ok d) : pAll (dtx [32] d []) = .ok d := by
  obtain ⟨h1, h2, h3⟩ := pAll_back h
  exact pAll_ok (b0 := []) sp32 (by simp) sp_nil sp_nil h1 h2 h3
/-- unlike changes have unlike texts -/
theorem dtx_apart {a b : Dp} (ha : canD a = true) (hb : canD b = true) (ha2 : -9223372036854775808 ≤ a.dn ∧ a.dn < 9223372036854775808) (hb2 : -9223372036854775808 ≤ b.dn ∧ b.dn < 9223372036854775808) (ha3 : ∀ c ∈ a.cols, -9223372036854775808 ≤ c.dn ∧ c.dn < 9223372036854775808) (hb3 : ∀ c ∈ b.cols, -9223372036854775808 ≤ c.dn ∧ c.dn < 9223372036854775808)
    (h : dtx [32] a [] = dtx [32] b []) : a = b := by
  have h1 := pAll_ok (b0 := []) sp32 (by simp) sp_nil sp_nil ha ha2 ha3
  have h2 := pAll_ok (b0 := []) sp32 (by simp) sp_nil sp_nil hb hb2 hb3
  rw [h, h2] at h1
  cases h1; rfl
end Go.Proofs.YtebldfnocpcddaaGreatDoor
