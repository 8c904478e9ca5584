/-
  What a quoted string denotes, and what two names a path has, plainly. It speaks of no program.
-/
import Derived.Test.YtgoefndbpfhhaaaDoorNameQuoMath
import Derived.Lib.Bytealg
namespace Go.Proofs.YtgoefndbpfhhaaaDoor

/-- the digits -/
def hexl : List UInt8 := [48, 49, 50, 51, 52, 53, 54, 55, 56, 57, 97, 98, 99, 100, 101, 102]
/-- which digit a byte is, or -1 -/
def hx (c : UInt8) : Int := Lib.indexByte hexl c
theorem hx_hexd (n : Nat) (h : n < 16) : hx (hexd n) = n := by
  have : ∀ k : Fin 16, hx (hexd k.1) = (k.1 : Int) := by decide
  exact this ⟨n, h⟩
theorem hx_range (c : UInt8) : -1 ≤ hx c ∧ hx c ≤ 15 := by
  have : ∀ k : Fin 256, -1 ≤ hx (UInt8.ofNat k.1) ∧ hx (UInt8.ofNat k.1) ≤ 15 := by decide +kernel
  have h := this ⟨c.toNat, c.toNat_lt⟩
  simpa using h

theorem frm_cases (c : UInt8) : (frm c = [c] ∧ c ≠ 92 ∧ c ≠ 34) ∨ (frm c = [92, c] ∧ (c = 34 ∨ c = 92)) ∨ (frm c = [92, 110] ∧ c = 10) ∨ frm c = [92, 120, hexd (c.toNat / 16), hexd (c.toNat % 16)] := by
  have e34 : c.toNat = 34 ↔ c = 34 := ⟨fun h => UInt8.toNat_inj.1 h, fun h => by rw [h]; rfl⟩
  have e92 : c.toNat = 92 ↔ c = 92 := ⟨fun h => UInt8.toNat_inj.1 h, fun h => by rw [h]; rfl⟩
  have e10 : c.toNat = 10 ↔ c = 10 := ⟨fun h => UInt8.toNat_inj.1 h, fun h => by rw [h]; rfl⟩
  unfold frm
  split
  · rename_i h; exact .inr (.inl ⟨rfl, h.imp e34.1 e92.1⟩)
  · rename_i h
    split
    · rename_i h2; exact .inr (.inr (.inl ⟨rfl, e10.1 h2⟩))
    · split
      · exact .inr (.inr (.inr rfl))
      · exact .inl ⟨rfl, fun h3 => h (.inr (e92.2 h3)), fun h3 => h (.inl (e34.2 h3))⟩

/-- the byte whose form can stand at the beginning -/
def dec : List UInt8 → UInt8
  | [] => 0
  | a :: t => if a = 92 then (match t with
    | [] => 0
    | b :: u => if b = 110 then 10 else if b = 120 then (match u with
      | h :: k :: _ => UInt8.ofNat (16 * (hx h).toNat + (hx k).toNat)
      | _ => 0) else b) else a
theorem dec_frm (c : UInt8) (x : List UInt8) : dec (frm c ++ x) = c := by
  have hc := c.toNat_lt
  rcases frm_cases c with ⟨h, h2, _⟩ | ⟨h, h2⟩ | ⟨h, h2⟩ | h
  · rw [h]; simp [dec, h2]
  · rw [h]; rcases h2 with rfl | rfl <;> simp [dec]
  · rw [h, h2]; simp [dec]
  · rw [h]
    simp only [dec, List.cons_append, List.nil_append, if_true]
    rw [if_neg (by decide), hx_hexd _ (by omega), hx_hexd _ (by omega)]
    simp only [Int.toNat_natCast]
    rw [show 16 * (c.toNat / 16) + c.toNat % 16 = c.toNat by omega]
    simp
theorem frm_inj {c d : UInt8} {x y : List UInt8} (h : frm c ++ x = frm d ++ y) : c = d ∧ x = y := by
  have h1 : c = d := by rw [← dec_frm c x, h, dec_frm]
  subst h1
  exact ⟨rfl, List.append_cancel_left h⟩
theorem frm_head (c : UInt8) (x y : List UInt8) : frm c ++ x ≠ 34 :: y := fun h => by
  rcases frm_cases c with ⟨h2, _, h3⟩ | ⟨h2, _⟩ | ⟨h2, _⟩ | h2
  all_goals
    rw [h2] at h
    simp at h
  exact h3 h.1
theorem frm_ne (c : UInt8) (x : List UInt8) : frm c ++ x ≠ [] := fun h => by
  have h1 := (frm_len c).2
  have h2 := congrArg List.length h
  simp at h2
  rw [h2.1] at h1
  simp at h1

theorem qb_cons (c : UInt8) (r : List UInt8) : qb (c :: r) = frm c ++ qb r := by simp [qb]
theorem qb_snoc (r : List UInt8) (c : UInt8) : qb (r ++ [c]) = qb r ++ frm c := by simp [qb]
theorem qt_app (t r : List UInt8) : qt t ++ r = 34 :: (qb t ++ 34 :: r) := by simp [qt]
theorem qt_len (t : List UInt8) : (qt t).length = (qb t).length + 2 := by simp [qt]
theorem qb_inj : ∀ {t u x y : List UInt8}, qb t ++ 34 :: x = qb u ++ 34 :: y → t = u ∧ x = y
  | [], [], x, y, h => by simp [qb] at h; exact ⟨rfl, h⟩
  | [], d :: u, x, y, h => by
    rw [qb_cons, List.append_assoc] at h
    exact absurd h.symm (frm_head d _ _)
  | c :: t, [], x, y, h => by
    rw [qb_cons, List.append_assoc] at h
    exact absurd h (frm_head c _ _)
  | c :: t, d :: u, x, y, h => by
    rw [qb_cons, qb_cons, List.append_assoc, List.append_assoc] at h
    obtain ⟨rfl, h2⟩ := frm_inj h
    obtain ⟨rfl, h3⟩ := qb_inj h2
    exact ⟨rfl, h3⟩
theorem qt_inj {t u x y : List UInt8} (h : qt t ++ x = qt u ++ y) : t = u ∧ x = y := by
  rw [qt_app, qt_app] at h
  exact qb_inj (List.cons.inj h).2
/-- nothing that is quoted begins so -/
theorem qb_stop : ∀ {t r : List UInt8}, (∀ c, ¬ frm c <+: r) → (∀ x, r ≠ 34 :: x) → ∀ u y, qb t ++ r ≠ qb u ++ 34 :: y
  | [], r, h1, h2, [], y, h => h2 y (by simpa [qb] using h)
  | [], r, h1, h2, d :: u, y, h => by
    rw [qb_cons, List.append_assoc] at h
    exact h1 d ⟨_, by simpa [qb] using h.symm⟩
  | c :: t, r, h1, h2, [], y, h => by
    rw [qb_cons, List.append_assoc] at h
    exact frm_head c _ _ h
  | c :: t, r, h1, h2, d :: u, y, h => by
    rw [qb_cons, qb_cons, List.append_assoc, List.append_assoc] at h
    obtain ⟨_, h3⟩ := frm_inj h
    exact qb_stop h1 h2 u y h3

open Classical in
/-- what a quoted string at the beginning denotes, its length, and whether there is one -/
noncomputable def uq (l : List UInt8) : List UInt8 × Nat × Bool :=
  if h : ∃ t r, l = qt t ++ r then (h.choose, (qt h.choose).length, true) else ([], 0, false)
theorem uq_yes {l t r : List UInt8} (h : l = qt t ++ r) : uq l = (t, (qt t).length, true) := by
  have hex : ∃ t r, l = qt t ++ r := ⟨t, r, h⟩
  unfold uq
  rw [dif_pos hex]
  obtain ⟨r2, h2⟩ := hex.choose_spec
  have h3 : hex.choose = t := (qt_inj (h2.symm.trans h)).1
  rw [h3]
theorem uq_no {l : List UInt8} (h : ∀ t r, l ≠ qt t ++ r) : uq l = ([], 0, false) := by
  unfold uq
  rw [dif_neg]
  rintro ⟨t, r, h2⟩
  exact h t r h2
theorem uq_back {l t : List UInt8} {n : Nat} (h : uq l = (t, n, true)) : n ≤ l.length ∧ qt t = l.take n := by
  by_cases hex : ∃ t r, l = qt t ++ r
  · obtain ⟨t2, r2, h2⟩ := hex
    rw [uq_yes h2] at h
    cases h
    subst h2
    simp
  · rw [uq_no (fun t r h2 => hex ⟨t, r, h2⟩)] at h
    cases h
theorem uq_false {l t : List UInt8} {n : Nat} (h : uq l = (t, n, false)) : t = [] ∧ n = 0 := by
  by_cases hex : ∃ t r, l = qt t ++ r
  · obtain ⟨t2, r2, h2⟩ := hex
    rw [uq_yes h2] at h
    cases h
  · rw [uq_no (fun t r h2 => hex ⟨t, r, h2⟩)] at h
    cases h; exact ⟨rfl, rfl⟩

/-- the reader has come to place p and has t -/
def Unq (l t : List UInt8) (p : Nat) : Prop := p = 1 + (qb t).length ∧ l = 34 :: (qb t ++ l.drop p)
theorem Unq.start {l : List UInt8} (h : l[0]? = some 34) : Unq l [] 1 := by
  cases l with
  | nil => simp at h
  | cons a r => simp at h; subst h; exact ⟨by simp [qb], by simp [qb]⟩
theorem Unq.stop {l t : List UInt8} {p : Nat} (h : Unq l t p) (hp : l[p]? = some 34) : uq l = (t, p + 1, true) := by
  obtain ⟨h1, h2⟩ := h
  rw [drop_at hp, ← qt_app] at h2
  rw [uq_yes h2, qt_len, h1]
  congr 2; omega
theorem Unq.none {l t : List UInt8} {p : Nat} (h : Unq l t p) (h1 : ∀ c, ¬ frm c <+: l.drop p) (h2 : l[p]? ≠ some 34) : uq l = ([], 0, false) := by
  refine uq_no fun u r he => ?_
  rw [h.2, qt_app] at he
  refine qb_stop h1 (fun x hx => h2 ?_) u r (List.cons.inj he).2
  have := congrArg (fun z : List UInt8 => z[0]?) hx
  simpa using this
theorem Unq.more {l t : List UInt8} {p : Nat} {c : UInt8} (h : Unq l t p) (h1 : frm c <+: l.drop p) : Unq l (t ++ [c]) (p + (frm c).length) := by
  obtain ⟨r, hr⟩ := h1
  refine ⟨by rw [qb_snoc, List.length_append, h.1]; omega, ?_⟩
  have e : l.drop (p + (frm c).length) = r := by rw [← List.drop_drop, ← hr]; simp
  rw [e, qb_snoc, List.append_assoc, hr]
  exact h.2
theorem uq_start {l : List UInt8} (h : l[0]? ≠ some 34) : uq l = ([], 0, false) := by
  refine uq_no fun t r he => h ?_
  rw [he, qt_app]; rfl

theorem frm_at {c : UInt8} {l : List UInt8} (h : frm c <+: l) : (l[0]? = some c ∧ c ≠ 92) ∨ (l[0]? = some 92 ∧ l[1]? = some c ∧ (c = 34 ∨ c = 92)) ∨ (l[0]? = some 92 ∧ l[1]? = some 110 ∧ c = 10) ∨
    (l[0]? = some 92 ∧ l[1]? = some 120 ∧ l[2]? = some (hexd (c.toNat / 16)) ∧ l[3]? = some (hexd (c.toNat % 16))) := by
  obtain ⟨r, rfl⟩ := h
  rcases frm_cases c with ⟨h, h2, _⟩ | ⟨h, h2⟩ | ⟨h, h2⟩ | h
  · rw [h]; exact .inl ⟨rfl, h2⟩
  · rw [h]; exact .inr (.inl ⟨rfl, rfl, h2⟩)
  · rw [h]; exact .inr (.inr (.inl ⟨rfl, rfl, h2⟩))
  · rw [h]; exact .inr (.inr (.inr ⟨rfl, rfl, rfl, rfl⟩))
/-- what guess hands back -/
def Guess (l : List UInt8) (b : UInt8) (ok : Bool) : Prop := ∀ c, frm c <+: l → ok = true ∧ b = c
theorem guess0 {l : List UInt8} {a : UInt8} (h : l[0]? = some a) (ha : a ≠ 92) : Guess l a true := fun c hc => by
  refine ⟨rfl, ?_⟩
  rcases frm_at hc with ⟨h1, _⟩ | ⟨h1, _⟩ | ⟨h1, _⟩ | ⟨h1, _⟩
  · rw [h] at h1; exact Option.some.inj h1
  all_goals rw [h] at h1; exact absurd (Option.some.inj h1) ha
theorem guess1 {l : List UInt8} (h : l[0]? = some 92) (h1 : l[1]? = none) : Guess l 0 false := fun c hc => by
  rcases frm_at hc with ⟨h2, h3⟩ | ⟨_, h2, _⟩ | ⟨_, h2, _⟩ | ⟨_, h2, _⟩
  · rw [h] at h2; exact absurd (Option.some.inj h2).symm h3
  all_goals rw [h1] at h2; cases h2
theorem guess2 {l : List UInt8} (h : l[0]? = some 92) (h1 : l[1]? = some 110) : Guess l 10 true := fun c hc => by
  rcases frm_at hc with ⟨h2, h3⟩ | ⟨_, h2, h3⟩ | ⟨_, _, h2⟩ | ⟨_, h2, _⟩
  · rw [h] at h2; exact absurd (Option.some.inj h2).symm h3
  · rw [h1] at h2
    have := Option.some.inj h2
    subst this
    rcases h3 with h3 | h3 <;> exact absurd h3 (by decide)
  · exact ⟨rfl, h2.symm⟩
  · rw [h1] at h2; exact absurd (Option.some.inj h2) (by decide)
theorem guess3 {l : List UInt8} {b : UInt8} (h : l[0]? = some 92) (h1 : l[1]? = some b) (hb : b ≠ 110) (hb2 : b ≠ 120) : Guess l b true := fun c hc => by
  rcases frm_at hc with ⟨h2, h3⟩ | ⟨_, h2, h3⟩ | ⟨_, h2, _⟩ | ⟨_, h2, _⟩
  · rw [h] at h2; exact absurd (Option.some.inj h2).symm h3
  · rw [h1] at h2; exact ⟨rfl, Option.some.inj h2⟩
  · rw [h1] at h2; exact absurd (Option.some.inj h2) hb
  · rw [h1] at h2; exact absurd (Option.some.inj h2) hb2
theorem guess_x {l : List UInt8} {c : UInt8} (h : l[0]? = some 92) (h1 : l[1]? = some 120) (hc : frm c <+: l) : l[2]? = some (hexd (c.toNat / 16)) ∧ l[3]? = some (hexd (c.toNat % 16)) := by
  rcases frm_at hc with ⟨h2, h3⟩ | ⟨_, h2, h3⟩ | ⟨_, h2, _⟩ | ⟨_, _, h2⟩
  · rw [h] at h2; exact absurd (Option.some.inj h2).symm h3
  · rw [h1] at h2
    have := Option.some.inj h2
    subst this
    rcases h3 with h3 | h3 <;> exact absurd h3 (by decide)
  · rw [h1] at h2; exact absurd (Option.some.inj h2) (by decide)
  · exact h2
theorem guess4 {l : List UInt8} (h : l[0]? = some 92) (h1 : l[1]? = some 120) (h3 : l[3]? = none) : Guess l 0 false := fun c hc => by
  have := (guess_x h h1 hc).2
  rw [h3] at this; cases this
theorem guess5 {l : List UInt8} {a b : UInt8} (h : l[0]? = some 92) (h1 : l[1]? = some 120) (h2 : l[2]? = some a) (h3 : l[3]? = some b) (hn : hx a < 0 ∨ hx b < 0) : Guess l 0 false := fun c hc => by
  have hlt := c.toNat_lt
  obtain ⟨h4, h5⟩ := guess_x h h1 hc
  rw [h2] at h4; rw [h3] at h5
  rw [Option.some.inj h4, Option.some.inj h5, hx_hexd _ (by omega), hx_hexd _ (by omega)] at hn
  omega
theorem guess6 {l : List UInt8} {a b : UInt8} (h : l[0]? = some 92) (h1 : l[1]? = some 120) (h2 : l[2]? = some a) (h3 : l[3]? = some b) : Guess l (UInt8.ofNat (16 * (hx a).toNat + (hx b).toNat)) true := fun c hc => by
  have hlt := c.toNat_lt
  obtain ⟨h4, h5⟩ := guess_x h h1 hc
  rw [h2] at h4; rw [h3] at h5
  rw [Option.some.inj h4, Option.some.inj h5, hx_hexd _ (by omega), hx_hexd _ (by omega)]
  refine ⟨rfl, ?_⟩
  simp only [Int.toNat_natCast]
  rw [show 16 * (c.toNat / 16) + c.toNat % 16 = c.toNat by omega]
  simp
end Go.Proofs.YtgoefndbpfhhaaaDoor
