/-
  Bytes as pairs of digits, plainly. It speaks of no program.
-/
import Derived.Test.YtgoefndbpfhhaaaDoorNameUnqMath
import Derived.Test.YtgoefndbpfhhaaaDoorNamePathMath
namespace Go.Proofs.YtgoefndbpfhhaaaDoor

/-- a byte's two digits -/
def hp (c : UInt8) : List UInt8 := [hexd (c.toNat / 16), hexd (c.toNat % 16)]
/-- the digits of bytes -/
def hxs (l : List UInt8) : List UInt8 := l.flatMap hp
theorem hxs_nil : hxs [] = [] := rfl
theorem hxs_cons (c : UInt8) (r : List UInt8) : hxs (c :: r) = hp c ++ hxs r := by simp [hxs]
theorem hxs_snoc (l : List UInt8) (c : UInt8) : hxs (l ++ [c]) = hxs l ++ hp c := by simp [hxs]
theorem hxs_len : ∀ l : List UInt8, (hxs l).length = 2 * l.length
  | [] => rfl
  | c :: r => by rw [hxs_cons, List.length_append, hxs_len r, List.length_cons]; simp [hp]; omega
theorem hexd_ne (n : Nat) (h : n < 16) : hexd n ≠ 34 := by
  have : ∀ k : Fin 16, hexd k.1 ≠ 34 := by decide
  exact this ⟨n, h⟩
theorem hexd_hx {c : UInt8} (h : 0 ≤ hx c) : hexd (hx c).toNat = c := by
  have : ∀ k : Fin 256, 0 ≤ hx (UInt8.ofNat k.1) → hexd (hx (UInt8.ofNat k.1)).toNat = UInt8.ofNat k.1 := by decide +kernel
  have h2 := this ⟨c.toNat, c.toNat_lt⟩
  simp only [UInt8.ofNat_toNat] at h2
  exact h2 h
theorem hp_of {a b : UInt8} (ha : 0 ≤ hx a) (hb : 0 ≤ hx b) : hp (UInt8.ofNat (16 * (hx a).toNat + (hx b).toNat)) = [a, b] := by
  have h1 := hx_range a
  have h2 := hx_range b
  have e : (UInt8.ofNat (16 * (hx a).toNat + (hx b).toNat)).toNat = 16 * (hx a).toNat + (hx b).toNat := by
    rw [UInt8.toNat_ofNat']; exact Nat.mod_eq_of_lt (by omega)
  unfold hp
  rw [e, show (16 * (hx a).toNat + (hx b).toNat) / 16 = (hx a).toNat by omega, show (16 * (hx a).toNat + (hx b).toNat) % 16 = (hx b).toNat by omega, hexd_hx ha, hexd_hx hb]
theorem hp_mem {c d : UInt8} (h : d ∈ hp c) : 0 ≤ hx d ∧ d ≠ 34 := by
  have hc := c.toNat_lt
  unfold hp at h
  rcases List.mem_cons.1 h with rfl | h
  · exact ⟨by rw [hx_hexd _ (by omega)]; omega, hexd_ne _ (by omega)⟩
  · simp at h; subst h
    exact ⟨by rw [hx_hexd _ (by omega)]; omega, hexd_ne _ (by omega)⟩
theorem hxs_mem {l : List UInt8} {d : UInt8} (h : d ∈ hxs l) : 0 ≤ hx d ∧ d ≠ 34 := by
  unfold hxs at h
  obtain ⟨c, _, hd⟩ := List.mem_flatMap.1 h
  exact hp_mem hd
theorem hp_inj {c d : UInt8} (h : hp c = hp d) : c = d := by
  have hc := c.toNat_lt
  have hd := d.toNat_lt
  unfold hp at h
  obtain ⟨h1, h2⟩ := List.cons.inj h
  have h3 := (List.cons.inj h2).1
  have e1 := congrArg hx h1
  have e2 := congrArg hx h3
  rw [hx_hexd _ (by omega), hx_hexd _ (by omega)] at e1 e2
  refine UInt8.toNat_inj.1 ?_
  omega
theorem hxs_inj : ∀ {t u x y : List UInt8}, hxs t ++ 34 :: x = hxs u ++ 34 :: y → t = u ∧ x = y
  | [], [], x, y, h => by simp [hxs] at h; exact ⟨rfl, h⟩
  | [], d :: u, x, y, h => by
    rw [hxs_cons, hxs_nil, List.nil_append] at h
    exact absurd (List.cons.inj h).1.symm (hexd_ne _ (by have := d.toNat_lt; omega))
  | c :: t, [], x, y, h => by
    rw [hxs_cons, hxs_nil, List.nil_append] at h
    exact absurd (List.cons.inj h).1 (hexd_ne _ (by have := c.toNat_lt; omega))
  | c :: t, d :: u, x, y, h => by
    rw [hxs_cons, hxs_cons, List.append_assoc, List.append_assoc] at h
    have h1 : hp c = hp d := by
      have := congrArg (List.take 2) h
      simpa [hp] using this
    have := hp_inj h1
    subst this
    obtain ⟨rfl, h3⟩ := hxs_inj (List.append_cancel_left h)
    exact ⟨rfl, h3⟩
theorem hxs_inj' {t u : List UInt8} (h : hxs t = hxs u) : t = u := (hxs_inj (x := []) (y := []) (by rw [h])).1
open Classical in
/-- the bytes of the digits up to a quote, how many digits, and whether there are such -/
noncomputable def uh (l : List UInt8) : List UInt8 × Nat × Bool :=
  if h : ∃ t r, l = hxs t ++ 34 :: r then (h.choose, (hxs h.choose).length, true) else ([], 0, false)
theorem uh_yes {l t r : List UInt8} (h : l = hxs t ++ 34 :: r) : uh l = (t, (hxs t).length, true) := by
  have hex : ∃ t r, l = hxs t ++ 34 :: r := ⟨t, r, h⟩
  unfold uh
  rw [dif_pos hex]
  obtain ⟨r2, h2⟩ := hex.choose_spec
  have h3 : hex.choose = t := (hxs_inj (h2.symm.trans h)).1
  rw [h3]
theorem uh_no {l : List UInt8} (h : ∀ t r, l ≠ hxs t ++ 34 :: r) : uh l = ([], 0, false) := by
  unfold uh
  rw [dif_neg]
  rintro ⟨t, r, h2⟩
  exact h t r h2
theorem uh_cases (l : List UInt8) : (∃ t r, l = hxs t ++ 34 :: r ∧ uh l = (t, (hxs t).length, true)) ∨ uh l = ([], 0, false) := by
  by_cases hex : ∃ t r, l = hxs t ++ 34 :: r
  · obtain ⟨t, r, h⟩ := hex
    exact .inl ⟨t, r, h, uh_yes h⟩
  · exact .inr (uh_no fun t r h => hex ⟨t, r, h⟩)
/-- the first quote parts the digits from the rest -/
theorem uh_split {a b : List UInt8} (ha : (34 : UInt8) ∉ a) : (∀ t, a = hxs t → uh (a ++ 34 :: b) = (t, a.length, true)) ∧ ((∀ t, a ≠ hxs t) → uh (a ++ 34 :: b) = ([], 0, false)) := by
  refine ⟨fun t h => ?_, fun h => uh_no fun t r he => ?_⟩
  · rw [uh_yes (t := t) (r := b) (by rw [h]), h]
  · have h34 : (34 : UInt8) ∉ hxs t := fun hm => (hxs_mem hm).2 rfl
    have key : ∀ {a c x y : List UInt8}, (34 : UInt8) ∉ a → (34 : UInt8) ∉ c → a ++ 34 :: x = c ++ 34 :: y → a = c := by
      intro a
      induction a with
      | nil =>
        intro c x y _ h2 h
        cases c with
        | nil => rfl
        | cons d c => simp at h; exact absurd (by rw [← h.1]; simp) h2
      | cons d a ih =>
        intro c x y h1 h2 h
        cases c with
        | nil => simp at h; exact absurd (by rw [h.1]; simp) h1
        | cons e c =>
          simp at h
          rw [h.1, ih (fun hm => h1 (by simp [hm])) (fun hm => h2 (by simp [hm])) h.2]
    exact h t (key ha h34 he)
theorem uh_none {l : List UInt8} (h : (34 : UInt8) ∉ l) : uh l = ([], 0, false) := uh_no fun t r he => h (by rw [he]; simp)
/-- t are the bytes of the first p digits -/
def Unh (l t : List UInt8) (p : Nat) : Prop := p = (hxs t).length ∧ l = hxs t ++ l.drop p
theorem Unh.start (l : List UInt8) : Unh l [] 0 := ⟨rfl, rfl⟩
theorem Unh.stop {l t : List UInt8} {p : Nat} (h : Unh l t p) (hp : l[p]? = some 34) : uh l = (t, p, true) := by
  obtain ⟨h1, h2⟩ := h
  rw [drop_at hp] at h2
  rw [uh_yes h2, h1]
theorem Unh.more {l t : List UInt8} {p : Nat} {c : UInt8} (h : Unh l t p) (h1 : (l.drop p).take 2 = hp c) : Unh l (t ++ [c]) (p + 2) := by
  obtain ⟨h2, h3⟩ := h
  have e : l.drop p = hp c ++ l.drop (p + 2) := by
    rw [← h1, ← List.drop_drop]; exact (List.take_append_drop 2 (l.drop p)).symm
  refine ⟨by rw [hxs_snoc, List.length_append, ← h2]; rfl, ?_⟩
  rw [hxs_snoc, List.append_assoc, ← e]; exact h3
theorem Unh.none {l t : List UInt8} {p : Nat} (h : Unh l t p) (h1 : ∀ c, (l.drop p).take 2 ≠ hp c) (h2 : l[p]? ≠ some 34) : uh l = ([], 0, false) := by
  obtain ⟨h3, h4⟩ := h
  refine uh_no fun u r he => ?_
  have key : ∀ {t u x : List UInt8}, (∀ c, x.take 2 ≠ hp c) → x[0]? ≠ some 34 → hxs t ++ x ≠ hxs u ++ 34 :: r := by
    intro t
    induction t with
    | nil =>
      intro u x hx1 hx2 h
      rw [hxs_nil, List.nil_append] at h
      cases u with
      | nil => rw [h] at hx2; exact hx2 rfl
      | cons d u =>
        refine hx1 d ?_
        rw [h, hxs_cons, List.append_assoc]; simp [hp]
    | cons c t ih =>
      intro u x hx1 hx2 h
      cases u with
      | nil =>
        rw [hxs_cons, hxs_nil, List.nil_append] at h
        exact absurd (List.cons.inj h).1 (hexd_ne _ (by have := c.toNat_lt; omega))
      | cons d u =>
        rw [hxs_cons, hxs_cons, List.append_assoc, List.append_assoc] at h
        have h5 : hp c = hp d := by
          have := congrArg (List.take 2) h
          simpa [hp] using this
        rw [h5] at h
        exact ih hx1 hx2 (List.append_cancel_left h)
  refine key (t := t) (u := u) (x := l.drop p) h1 (by rw [List.getElem?_drop]; exact h2) ?_
  rw [← h4]; exact he
end Go.Proofs.YtgoefndbpfhhaaaDoor
