/-
  Texts that the proof needs, one behind the other: DtxTrimC, DtxColsM.
-/
import Derived.Shelf.Strings.SlTrimAscii
import Derived.Deep.RegionHeld3
import Derived.WalkLawsBesides
import Derived.Test.YtebldfnocpcddaaGreatDoorPart9
import Derived.Test.YtebldfnocpcddaaGreatDoorPart18
import Derived.Test.YtebldfnocpcddaaGreatDoorPart20
import Derived.Test.YtebldfnocpcddaaGreatDoorPart25

/-
  The program's parser of changes (layer 10): blanks, the rest, words and signs.
-/
namespace Go.Proofs.YtebldfnocpcddaaGreatDoor
open Go.RowKit

theorem dropW_eq (l : List UInt8) : l.dropWhile ([32, 9, 10].contains ·) = bl l := by
  have e : (fun c : UInt8 => ([32, 9, 10] : List UInt8).contains c) = isBl := by
    funext c
    rw [Bool.eq_iff_iff, isBl_iff]
    simp only [List.contains_cons, List.contains_nil, Bool.or_false, Bool.or_eq_true, beq_iff_eq]
    constructor
    · rintro (h | h | h) <;> subst h <;> simp
    · rintro (h | h | h)
      · exact .inl (u8eq (by decide) h)
      · exact .inr (.inl (u8eq (by decide) h))
      · exact .inr (.inr (u8eq (by decide) h))
  show List.dropWhile (fun c => ([32, 9, 10] : List UInt8).contains c) l = _
  rw [e]; rfl
set_option maxRecDepth 100000 in
theorem trim_any (s : ByteArray) (w : World) : Calls Tryz.prog 99 #[.string s, .string ⟨#[32, 9, 10]⟩] w fun e w' => e = .returned (.string (strB (bl (bs s)))) ∧ Below w.heap.size w w' := by
  have h := Any.strings_TrimLeft_ascii lay_Lays_n161 (by intro w; kernel_rfl) (by kernel_rfl) s ⟨#[32, 9, 10]⟩ w (by decide) (fun j b hb => by
    match j, hb with
    | 0, hb => cases hb; decide
    | 1, hb => cases hb; decide
    | 2, hb => cases hb; decide)
  refine h.mono ?_
  rintro e w' ⟨h1, h2⟩
  refine ⟨?_, h2⟩
  rw [h1]
  unfold strB Lib.trimLeftS
  rw [show bl (bs s) = (bs s).dropWhile ([32, 9, 10].contains ·) from (dropW_eq _).symm]
  rfl

set_option maxRecDepth 100000 in
set_option maxHeartbeats 1600000 in
theorem qskip_any (b : Nat) (s : ByteArray) (a : Nat) (w : World) (h : QBx 63 w b s a) (hs : s.size ≤ 1000000) :
    Calls Tryz.prog 82 #[.pointer (some ⟨b, 0, none⟩)] w fun en w' => en = .returned (.tuple #[]) ∧ QBx 63 w' b s (nb s a) ∧ Off (fun k => k = b) w w' := by
  have H := Lib.hid h
  have ha := h.le
  obtain ⟨hn1, hn2⟩ := nb_le ha
  have hx : bs (s.extract a s.size) = (bs s).drop a := by rw [bs_extract, List.take_of_length_le (by rw [bs_length]; omega)]
  have HT : Hid (∀ w, Calls Tryz.prog 99 #[.string (s.extract a s.size), .string ⟨#[32, 9, 10]⟩] w fun e w' => e = .returned (.string (strB (bl ((bs s).drop a)))) ∧ Below w.heap.size w w') := fun w => by
    have := trim_any (s.extract a s.size) w
    rwa [hx] at this
  have hz : (strB (bl ((bs s).drop a))).size = s.size - nb s a := by
    have e : (strB (bl ((bs s).drop a))).size = (bl ((bs s).drop a)).length := by unfold strB; exact ba_size _
    rw [e, ← nb_drop ha, List.length_drop, bs_length]
  obtain ⟨y, hy⟩ : ∃ y, strB (bl ((bs s).drop a)) = y := ⟨_, rfl⟩
  rw [hy] at HT hz
  have ws : IntKind.i64.wrap ((s.size : Int) - (y.size : Int)) = ((nb s a : Nat) : Int) := by
    rw [hz]
    have e : (s.size : Int) - ((s.size - nb s a : Nat) : Int) = ((nb s a : Nat) : Int) := by omega
    rw [e]
    exact IntWalk.i64_in _ (by omega)
  obtain ⟨k, hk⟩ : ∃ k, nb s a = k := ⟨_, rfl⟩
  rw [hk] at ws hn2 ⊢
  have HQ := Lib.hid (fun w' (q : QBx 63 w' b s a) => q.set k hn2)
  clear hx hy hz hk hn1 h
  obtain ⟨c0, c1⟩ := H.out.cells
  have f1 := H.out.frozen 1
  go_enter Tryz.func82, Tryz.ntmps82
  go_wp2_with fail
  go_region_with (go_at_call 99; refine (HT.out _).mono ?_; rintro en w2 ⟨rfl, hb⟩; have Hb2 : Hid (Below w.heap.size w w2) := bthen (by go_grown) hb; have HP2 := Lib.hid (H.out.below Hb2.out); obtain ⟨hc5, hf5⟩ := bcell10 hb; have f1 := HP2.out.frozen 1; have d0 := HP2.out.cells.1; have d1 := HP2.out.cells.2)
  all_goals
    go_wp2_with fail
    go_end0
    exact ⟨rfl, (HQ.out _ HP2.out).1, Off.behind Hb2.out (HQ.out _ HP2.out).2⟩
end Go.Proofs.YtebldfnocpcddaaGreatDoor

/-
  The text of a change (layer 10): columns between brackets, one by one.
-/
namespace Go.Proofs.YtebldfnocpcddaaGreatDoor

theorem pName_bl (r : List UInt8) : pName (bl r) = pName r := by unfold pName; rw [bl_bl]
theorem pCol_bl (r : List UInt8) : pCol (bl r) = pCol r := by unfold pCol; rw [pName_bl]
/-- columns between brackets -/
noncomputable def pColsP (r : List UInt8) : Except Er (List Cb × List UInt8) := (pSign 40 r).bind fun r => (pCols 10 [] r).bind fun c => (pSign 41 c.2).bind fun r => .ok (c.1, r)
theorem pCols_s (k : Nat) (l : List Cb) (r : List UInt8) : pCols (k + 1) l r = (pCol r).bind fun c => if (bl c.2)[0]? = some 44 then pCols k (l ++ [c.1]) ((bl c.2).drop 1) else .ok (l ++ [c.1], bl c.2) := by
  rw [← pCol_bl r]; rfl
/-- what the columns from a1 on come «to», where l are read, up to ak -/
def CI (s : ByteArray) (a1 : Nat) (l : List Cb) (ak : Nat) : Prop := pCols 10 [] ((bs s).drop a1) = (if (bl ((bs s).drop ak))[0]? = some 44 then pCols (10 - l.length) l ((bl ((bs s).drop ak)).drop 1) else .ok (l, bl ((bs s).drop ak)))
/-- behind a comma -/
theorem CI.comma {s : ByteArray} {a1 ak : Nat} {l : List Cb} (h : CI s a1 l ak) (ha : ak ≤ s.size) (ht : tmB s ak 44 = true) : pCols 10 [] ((bs s).drop a1) = pCols (10 - l.length) l ((bs s).drop (tmA s ak 44)) := by
  unfold CI at h
  rw [h, if_pos (of_decide_eq_true ht)]
  unfold tmA
  rw [if_pos ht, ← nb_drop ha, drop_more]
theorem CI.stop {s : ByteArray} {a1 ak : Nat} {l : List Cb} (h : CI s a1 l ak) (ha : ak ≤ s.size) (ht : tmB s ak 44 = false) : QTo (pCols 10 []) s a1 l (tmA s ak 44) := by
  unfold CI at h
  show pCols 10 [] _ = _
  rw [h, if_neg (of_decide_eq_false ht)]
  unfold tmA
  rw [if_neg (by rw [ht]; decide), nb_drop ha]
theorem CI.of {s : ByteArray} {a1 ak a3 : Nat} {l : List Cb} {c : Cb} (h : pCols 10 [] ((bs s).drop a1) = pCols (10 - l.length) l ((bs s).drop ak)) (hl : l.length < 10) (hc : QTo pCol s ak c a3) : CI s a1 (l ++ [c]) a3 := by
  unfold CI
  rw [h, show 10 - l.length = (9 - l.length) + 1 by omega, pCols_s, hc]
  show (if _ then _ else _) = _
  rw [List.length_append, show 10 - (l.length + [c].length) = 9 - l.length by rw [List.length_singleton]; omega]
theorem CI.no {s : ByteArray} {a1 ak a3 e : Nat} {l : List Cb} (h : pCols 10 [] ((bs s).drop a1) = pCols (10 - l.length) l ((bs s).drop ak)) (hl : l.length < 10) (hc : QNo pCol s ak a3 e) : QNo (pCols 10 []) s a1 a3 e := by
  refine ⟨hc.1, ?_⟩
  rw [h, show 10 - l.length = (9 - l.length) + 1 by omega, pCols_s, hc.2]; rfl
theorem CI.full {s : ByteArray} {a1 ak : Nat} {l : List Cb} (h : pCols 10 [] ((bs s).drop a1) = pCols (10 - l.length) l ((bs s).drop ak)) (hl : l.length = 10) (ha : ak ≤ s.size) : QNo (pCols 10 []) s a1 (nb s ak) 3 := by
  refine ⟨by decide, ?_⟩
  rw [h, hl, nb_drop ha]; rfl
theorem pColsP_no1 {s : ByteArray} {a a1 e : Nat} (h : QNo (un (pSign 40)) s a a1 e) : QNo pColsP s a a1 e := by
  refine ⟨h.1, ?_⟩
  have h2 : (pSign 40 ((bs s).drop a)).bind _ = _ := h.2
  show (pSign 40 ((bs s).drop a)).bind _ = _
  cases hp : pSign 40 ((bs s).drop a) with
  | ok r => rw [hp] at h2; cases h2
  | error r => rw [hp] at h2; cases h2; rfl
theorem un_ok {m : List UInt8 → Except Er (List UInt8)} {s : ByteArray} {a a1 : Nat} (h : QTo (un m) s a () a1) : m ((bs s).drop a) = .ok ((bs s).drop a1) := by
  have h2 : (m ((bs s).drop a)).bind _ = _ := h
  cases hp : m ((bs s).drop a) with
  | error r => rw [hp] at h2; cases h2
  | ok r => rw [hp] at h2; cases h2; rfl
theorem un_er {m : List UInt8 → Except Er (List UInt8)} {s : ByteArray} {a a1 e : Nat} (h : QNo (un m) s a a1 e) : m ((bs s).drop a) = .error ((bs s).drop a1, e) := by
  have h2 : (m ((bs s).drop a)).bind _ = _ := h.2
  cases hp : m ((bs s).drop a) with
  | ok r => rw [hp] at h2; cases h2
  | error r => rw [hp] at h2; cases h2; rfl
theorem pColsP_no2 {s : ByteArray} {a a1 a2 e : Nat} (h : QTo (un (pSign 40)) s a () a1) (h2 : QNo (pCols 10 []) s a1 a2 e) : QNo pColsP s a a2 e := by
  refine ⟨h2.1, ?_⟩
  unfold pColsP
  rw [un_ok h]
  show (pCols 10 [] ((bs s).drop a1)).bind _ = _
  rw [h2.2]; rfl
theorem pColsP_no3 {s : ByteArray} {a a1 a2 a3 e : Nat} {l : List Cb} (h : QTo (un (pSign 40)) s a () a1) (h2 : QTo (pCols 10 []) s a1 l a2) (h3 : QNo (un (pSign 41)) s a2 a3 e) : QNo pColsP s a a3 e := by
  refine ⟨h3.1, ?_⟩
  unfold pColsP
  rw [un_ok h]
  show (pCols 10 [] ((bs s).drop a1)).bind _ = _
  rw [h2]
  show (pSign 41 ((bs s).drop a2)).bind _ = _
  rw [un_er h3]; rfl
theorem pColsP_to {s : ByteArray} {a a1 a2 a3 : Nat} {l : List Cb} (h : QTo (un (pSign 40)) s a () a1) (h2 : QTo (pCols 10 []) s a1 l a2) (h3 : QTo (un (pSign 41)) s a2 () a3) : QTo pColsP s a l a3 := by
  show pColsP _ = _
  unfold pColsP
  rw [un_ok h]
  show (pCols 10 [] ((bs s).drop a1)).bind _ = _
  rw [h2]
  show (pSign 41 ((bs s).drop a2)).bind _ = _
  rw [un_ok h3]; rfl
end Go.Proofs.YtebldfnocpcddaaGreatDoor
