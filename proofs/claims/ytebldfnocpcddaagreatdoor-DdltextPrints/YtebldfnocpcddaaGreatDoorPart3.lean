/-
  Texts that the proof needs, one behind the other: UtfRefMoreC, UtfEachC, UtfAllC, UtfLivesC.
-/
import Derived.Shelf.Abstract
import Derived.Test.YtebldfnocpcddaaGreatDoorPart1
import Derived.Test.YtebldfnocpcddaaGreatDoorPart2

/-
  Contracts of the document's own Signs, Right, Text, Cut, Same.
-/
namespace Go.Proofs.YtebldfnocpcddaaGreatDoor
open Go.RowKit

theorem rread_yes (s : ByteArray) (n k : Nat) (w : World) (hs : s.size ≤ 9223372036854775807) (h : rd (bs s) = some (n, k)) :
    Calls Tryz.prog 97 #[.string s] w fun e w' => e = .returned (.tuple #[.int .i64 n, .int .i64 k, .bool true]) ∧ Below w.heap.size w w' := by
  have := rread_any s w hs
  rw [rdV_some h] at this
  exact this
theorem rread_no (s : ByteArray) (w : World) (hs : s.size ≤ 9223372036854775807) (h : rd (bs s) = none) :
    Calls Tryz.prog 97 #[.string s] w fun e w' => e = .returned (.tuple #[.int .i64 0, .int .i64 0, .bool false]) ∧ Below w.heap.size w w' := by
  have := rread_any s w hs
  rw [rdV_none h] at this
  exact this

/-- numbers as ints -/
def toI (ns : List Nat) : List Int := ns.map fun n : Nat => (n : Int)
theorem toI_snoc (ns : List Nat) (n : Nat) : toI (ns ++ [n]) = toI ns ++ [(n : Int)] := by simp [toI]
theorem toI_length (ns : List Nat) : (toI ns).length = ns.length := by simp [toI]
/-- what Signs hands back -/
def signsV (l : List UInt8) (w' : World) (base : Nat) (v : Value) (b : Bool) : Prop :=
  (∃ ns, sg l = some ns ∧ OwnI w' base v (toI ns) ∧ b = true) ∨ (sg l = none ∧ v = .slice none 0 0 ∧ b = false)

set_option maxRecDepth 100000 in
set_option maxHeartbeats 800000 in
theorem rsigns_any (s : ByteArray) (w : World) (hs : s.size ≤ 1000000) :
    Calls Tryz.prog 76 #[.string s] w fun e w' => ∃ v b, e = .returned (.tuple #[v, .bool b]) ∧ signsV (bs s) w' w.heap.size v b ∧ Below w.heap.size w w' := by
  go_enter Tryz.func76, Tryz.ntmps76
  go_wp2_with fail
  go_loopw [0, 4] (fun x v wr => ∃ (r : ByteArray) (p : Nat) (ns : List Nat), x = .string r ∧ Hid (bs r = (bs s).drop p) ∧ r.size + p = s.size ∧ Hid (Got (bs s) ns p) ∧ OwnI wr w.heap.size v (toI ns) ∧ Below w.heap.size w wr) (fun x _ _ => strSize x)
  case atStart => exact ⟨s, 0, [], rfl, by show _ = _; rw [List.drop_zero], by omega, Got.zero _, OwnI.nil _ _, Below.refl _ _⟩
  case round =>
    obtain ⟨r, p, ns, rfl, hr, hp, hg, ho, hb⟩ := hrel
    have HO := Lib.hid ho; clear ho
    have hsz := hb.size
    by_cases h0 : r.size = 0
    · have hg2 := hg.out
      rw [show p = (bs s).length by rw [bs_length]; omega] at hg2
      obtain rfl := is_empty r h0
      have Hd := Lib.hid hg2.done
      clear hg2
      go_wp2_with fail
      go_ret2
      exact ⟨_, _, rfl, .inl ⟨ns, Hd.out, HO.out, rfl⟩, hb⟩
    · have hne := ne_empty r (by omega)
      cases hrd : rd (bs r) with
      | none =>
        have Hno : Hid (sg (bs s) = none) := hg.out.stop (by rw [bs_length]; omega) (by rw [← hr.out]; exact hrd)
        have Hrd := Lib.hid hrd; clear hrd
        go_wp2_with (go_at_call 97; refine (rread_no r _ (by omega) Hrd.out).mono ?_; rintro e w1 ⟨rfl, hb1⟩)
        go_ret2
        exact ⟨_, _, rfl, .inr ⟨Hno.out, rfl, rfl⟩, hb.trans (hb1.mono hsz)⟩
      | some q =>
        obtain ⟨n, k⟩ := q
        have hpos := rd_pos hrd
        rw [bs_length] at hpos
        have Hg2 := Lib.hid (hg.out.more (by rw [← hr.out]; exact hrd))
        have Hr2 : Hid (bs (r.extract k r.size) = (bs s).drop (p + k)) := by
          show _ = _
          rw [bs_rest, hr.out, List.drop_drop]
        have hlen := hg.out.len
        have Hrd := Lib.hid hrd; clear hrd
        go_wp2_with fail
        refine (rread_yes r n k _ (by omega) Hrd.out).mono ?_
        rintro e w1 ⟨rfl, hb1⟩
        have hs1 := hb1.size
        have ho1 := HO.out.below hb1
        go_wp2_with (at_builtin; refine wpList_append_int rfl _ _ rfl w.heap.size _ (toI ns) n ho1 rfl rfl (by rw [toI_length]; omega) (by omega) ?_; intro v' w2 ho2 _ hb2)
        go_roundw
        case rel => exact ⟨r.extract k r.size, p + k, ns ++ [n], by simp, Hr2, by simp; omega, Hg2, by rw [toI_snoc]; exact ho2, (hb.trans (hb1.mono hsz)).trans hb2⟩
        case measure => simp [strSize]; omega

set_option maxRecDepth 100000 in
set_option maxHeartbeats 400000 in
theorem rright_any (s : ByteArray) (w : World) (hs : s.size ≤ 1000000) :
    Calls Tryz.prog 48 #[.string s] w fun e w' => e = .returned (.bool (sg (bs s)).isSome) ∧ Below w.heap.size w w' := by
  go_enter Tryz.func48, Tryz.ntmps48
  go_wp2_with fail
  refine (rsigns_any s _ hs).mono ?_
  rintro e w1 ⟨v, b, rfl, hv, hb1⟩
  have Hv : Hid (b = (sg (bs s)).isSome) := by
    show _ = _
    rcases hv with ⟨ns, h1, _, h3⟩ | ⟨h1, _, h3⟩
    · rw [h1, h3]; rfl
    · rw [h1, h3]; rfl
  clear hv
  go_wp2
  go_ret
  exact ⟨by rw [Hv.out]; rfl, hb1⟩

/-- the bytes of ints, if each is a code point -/
def txt (zs : List Int) : List UInt8 := text (zs.map Int.toNat)
theorem txt_snoc (zs : List Int) (n : Nat) : txt (zs ++ [(n : Int)]) = txt zs ++ enc n := by
  unfold txt; rw [List.map_append, text_append]; simp [text]
theorem txt_length (zs : List Int) : (txt zs).length ≤ 4 * zs.length := by
  have := text_length_le (zs.map Int.toNat)
  simpa [txt] using this
/-- what Text hands back -/
def txtV (zs : List Int) : List UInt8 × Bool := if zs.all isP then (txt zs, true) else ([], false)
theorem txtV_bad {zs : List Int} {k : Nat} (hk : k < zs.length) (h : isP zs[k] = false) : txtV zs = ([], false) := by
  unfold txtV
  rw [if_neg]
  intro h2
  rw [List.all_eq_true] at h2
  rw [h2 _ (List.getElem_mem hk)] at h; cases h
theorem txtV_good {zs : List Int} (h : (zs.take zs.length).all isP = true) : txtV zs = (txt zs, true) := by
  unfold txtV
  rw [List.take_length] at h
  rw [if_pos h]
theorem all_take {zs : List Int} {k : Nat} (hk : k < zs.length) (h : (zs.take k).all isP = true) (h2 : isP zs[k] = true) : (zs.take (k + 1)).all isP = true := by
  rw [List.take_succ_eq_append_getElem hk, List.all_append, h]; simp [h2]
theorem isP_nat {z : Int} (h : isP z = true) : ∃ n : Nat, z = n ∧ isP n = true ∧ n ≤ 1114111 := by
  have h' := (isP_iff z).1 h
  obtain ⟨n, rfl⟩ := Int.eq_ofNat_of_zero_le h'.1
  exact ⟨n, rfl, h, by omega⟩

theorem cut_ex (l : List UInt8) (most : Int) : ∀ p : Nat, ∃ c, CutAt l most p c
  | 0 => ⟨0, CutAt.zero _ _⟩
  | p + 1 => by
    obtain ⟨c, h1, h2, h3⟩ := cut_ex l most p
    by_cases hq : ((p + 1 : Nat) : Int) ≤ most ∧ (sg (l.take (p + 1))).isSome = true
    · exact ⟨p + 1, by omega, .inr hq, fun j h4 h5 => by omega⟩
    · refine ⟨c, by omega, h2, fun j h4 h5 h6 => ?_⟩
      by_cases hj : j ≤ p
      · exact h3 j h4 hj h6
      · obtain rfl : j = p + 1 := by omega
        cases hs : sg (l.take (p + 1)) with
        | none => rfl
        | some x => exact absurd ⟨h6, by rw [hs]; rfl⟩ hq

end Go.Proofs.YtebldfnocpcddaaGreatDoor

/-
  Contracts of utf.each, Count, Signs, Right, Cut, Text.
-/
namespace Go.Proofs.YtebldfnocpcddaaGreatDoor
open Go.RowKit

theorem UTab.under {w w' : World} {B : Nat} (h : UTab w) (hb : Below B w w') (h1 : 5 < B) (h2 : 6 < B) : UTab w' :=
  ⟨fun i hi => (hb.cell (p := ⟨5, i, none⟩) h1).trans (h.1 i hi), fun i hi => (hb.cell (p := ⟨6, i, none⟩) h2).trans (h.2 i hi)⟩

set_option maxRecDepth 100000 in
set_option maxHeartbeats 800000 in
theorem each_any (s : ByteArray) (F B : Nat) (caps : Array Value) (I : List Nat → Nat → World → Prop) (w : World) (ht : UTab w) (hs : s.size ≤ 1000000) (h1 : 5 < B) (h2 : 6 < B) (hB : B ≤ w.heap.size)
    (hF : ∀ args w, (callFunc F args).run Tryz.prog w = .ok (.enter F args) w)
    (hkeep : ∀ ns p wr wr', I ns p wr → Below wr.heap.size wr wr' → I ns p wr')
    (hcall : ∀ ns p n k wr, Got (bs s) ns p → rd ((bs s).drop p) = some (n, k) → I ns p wr → B ≤ wr.heap.size →
      Calls Tryz.prog F (#[.int .i64 (n : Int), .int .i64 ((p + k : Nat) : Int)] ++ caps) wr fun e w' => e = .returned (.tuple #[]) ∧ I (ns ++ [n]) (p + k) w' ∧ Below B wr w')
    (h0 : I [] 0 w) :
    Calls Tryz.prog 156 #[.string s, .func (.func F) #[] caps] w fun e w' => e = .returned (.bool (sg (bs s)).isSome) ∧ (∀ ns, sg (bs s) = some ns → I ns s.size w') ∧ Below B w w' := by
  have HT := Lib.hid ht; clear ht
  have HK := Lib.hid hkeep; clear hkeep
  have HC := Lib.hid hcall; clear hcall
  go_enter Tryz.func156, Tryz.ntmps156
  go_wp2_with fail
  go_loopw [5] (fun i wr => ∃ (p : Nat) (ns : List Nat), p ≤ s.size ∧ i = .int .i64 p ∧ Hid (Got (bs s) ns p) ∧ Hid (I ns p wr) ∧ Below B w wr) (fun i _ => s.size - (intOf i).toNat)
  case atStart => exact ⟨0, [], by omega, rfl, Got.zero _, h0, Below.refl _ _⟩
  case round =>
    obtain ⟨p, ns, hp, rfl, hg, hI, hb⟩ := hrel
    have hsz := hb.size
    by_cases hlt : p < s.size
    · have Hbr := Lib.hid (bs_rest s p)
      have hsl : (s.extract p s.size).size = s.size - p := by simp
      have HTr := Lib.hid (HT.out.under hb h1 h2)
      cases hrd : rd ((bs s).drop p) with
      | none =>
        have Hno := Lib.hid (hg.out.stop (by rw [bs_length]; exact hlt) hrd)
        have Hrd : Hid (rd (bs (s.extract p s.size)) = none) := by show _ = _; rw [Hbr.out]; exact hrd
        clear hrd
        go_wp2_with fail
        refine (read_no (s.extract p s.size) _ HTr.out (by omega) Hrd.out).mono ?_
        rintro e w1 ⟨rfl, hb1⟩
        go_wp2
        go_ret
        exact ⟨by rw [Hno.out]; rfl, (fun ns' h => by rw [Hno.out] at h; cases h), hb.trans (hb1.mono (by omega))⟩
      | some q =>
        obtain ⟨n, k⟩ := q
        have hpos := rd_pos hrd
        rw [List.length_drop, bs_length] at hpos
        have Hrd : Hid (rd (bs (s.extract p s.size)) = some (n, k)) := by show _ = _; rw [Hbr.out]; exact hrd
        have Hg2 := Lib.hid (hg.out.more hrd)
        have Hcl := Lib.hid (fun wr hi hb => HC.out ns p n k wr hg.out hrd hi hb)
        clear hrd
        go_wp2_with fail
        refine (read_yes (s.extract p s.size) n k _ HTr.out (by omega) Hrd.out).mono ?_
        rintro e w1 ⟨rfl, hb1⟩
        have hI1 := Lib.hid (HK.out _ _ _ _ hI.out hb1)
        have hs1 := hb1.size
        go_wp2_with fail
        refine (Hcl.out w1 hI1.out (by omega)).mono ?_
        rintro e w2 ⟨rfl, hI2, hb2⟩
        have HI2 := Lib.hid hI2; clear hI2
        go_wp2
        go_roundw
        case rel => exact ⟨p + k, ns ++ [n], by omega, by go_num, Hg2, HI2, (hb.trans (hb1.mono (by omega))).trans hb2⟩
        case measure => simp [intOf]; omega
    · obtain rfl : p = s.size := by omega
      have hg2 := hg.out
      rw [← bs_length s] at hg2
      have Hd := Lib.hid hg2.done
      clear hg2
      go_wp2_with fail
      go_ret
      exact ⟨by rw [Hd.out]; rfl, (fun ns' h => by rw [Hd.out] at h; cases h; exact hI.out), hb⟩

/-- a variable of one cell -/
def One (w : World) (b : Nat) (v : Value) (t : TypeId) : Prop := w.heap[b]? = some (.cells #[v] t (0, 0))
theorem One.keep {w w' : World} {b B : Nat} {v : Value} {t : TypeId} (h : One w b v t) (hb : Below B w w') (hB : b < B) : One w' b v t := by
  unfold One at h ⊢
  rw [← h]; exact hb.block b hB
theorem One.lt {w : World} {b : Nat} {v : Value} {t : TypeId} (h : One w b v t) : b < w.heap.size := (Array.getElem?_eq_some_iff.1 h).1

set_option maxRecDepth 100000 in
set_option maxHeartbeats 400000 in
theorem count1_any (Bn m : Nat) (x y : Int) (w : World) (h : One w Bn (.int .i64 m) 3) (hm : m < 4611686018427387904) :
    Calls Tryz.prog 157 #[.int .i64 x, .int .i64 y, .pointer (some ⟨Bn, 0, none⟩)] w fun e w' => e = .returned (.tuple #[]) ∧ One w' Bn (.int .i64 (m + 1 : Nat)) 3 ∧ Below Bn w w' := by
  have hc := cell_of_one h
  have hf := free_of_one h
  have R : One (w.setCell ⟨Bn, 0, none⟩ (.int .i64 ((m : Int) + 1))) Bn (.int .i64 (m + 1 : Nat)) 3 := one_setCell h
  have HR := Lib.hid R; clear R
  have H := Lib.hid h; clear h
  go_enter Tryz.func157, Tryz.ntmps157
  go_wp2
  go_end0
  exact ⟨rfl, HR.out, (Below.refl Bn w).setCell (p := ⟨Bn, 0, none⟩) (Nat.le_refl _) _⟩
theorem entersCount : ∀ args w, (callFunc 157 args).run Tryz.prog w = .ok (.enter 157 args) w := Go.Proofs.enters_of Tryz.func157 (by kernel_rfl) rfl

set_option maxRecDepth 100000 in
set_option maxHeartbeats 400000 in
theorem count_any (s : ByteArray) (w : World) (ht : UTab w) (hs : s.size ≤ 1000000) :
    Calls Tryz.prog 150 #[.string s] w fun e w' => e = .returned (.int .i64 (match sg (bs s) with | some ns => (ns.length : Int) | none => -1)) ∧ Below w.heap.size w w' := by
  have HT := Lib.hid ht; clear ht
  have hmf : ∀ (fn : Fn) (first cap : Array Value) (w : World), (Instr.makeFunc fn first cap).run Tryz.prog w = .ok (.func fn first cap) w := fun _ _ _ _ => rfl
  have h1 : One (w.alloc (.cells #[.int .i64 0] 3)) w.heap.size (.int .i64 (([] : List Nat).length : Nat)) 3 := heap_alloc_new w _
  have H1 := Lib.hid h1; clear h1
  have Heach := Lib.hid (each_any s 157 w.heap.size #[.pointer (some ⟨w.heap.size, 0, none⟩)] (fun ns _ wr => One wr w.heap.size (.int .i64 (ns.length : Nat)) 3) (w.alloc (.cells #[.int .i64 0] 3)) (HT.out.alloc _) hs
    HT.out.pos.1 HT.out.pos.2 (by simp) entersCount (fun ns p wr wr' h hb => h.keep hb h.lt)
    (fun ns p n k wr hg hr hI hB => (count1_any w.heap.size ns.length _ _ wr hI (by have := hg.len; have := hg.2.2; rw [bs_length] at this; omega)).mono fun e w' ⟨h1, h2, h3⟩ => ⟨h1, by rw [List.length_append]; exact h2, h3⟩) H1.out)
  cases hsg : sg (bs s) with
  | none =>
    have Hsg := Lib.hid hsg; clear hsg
    go_enter Tryz.func150, Tryz.ntmps150
    go_wp2_with fail
    refine Heach.out.mono ?_
    rintro e w1 ⟨rfl, _, hb1⟩
    rw [Hsg.out]
    go_wp2
    go_ret
    exact ⟨rfl, ((Below.refl _ _).alloc (Nat.le_refl _) _).trans hb1⟩
  | some ns =>
    have Hsg := Lib.hid hsg; clear hsg
    go_enter Tryz.func150, Tryz.ntmps150
    go_wp2_with fail
    refine Heach.out.mono ?_
    rintro e w1 ⟨rfl, h2, hb1⟩
    rw [Hsg.out]
    have hc := cell_of_one (h2 ns Hsg.out)
    clear h2
    go_wp2
    go_ret
    exact ⟨rfl, ((Below.refl _ _).alloc (Nat.le_refl _) _).trans hb1⟩
end Go.Proofs.YtebldfnocpcddaaGreatDoor

/-
  Contracts of utf.Right, Signs, Cut, Text.
-/
namespace Go.Proofs.YtebldfnocpcddaaGreatDoor
open Go.RowKit

set_option maxRecDepth 100000 in
set_option maxHeartbeats 400000 in
theorem right_any (s : ByteArray) (w : World) (ht : UTab w) (hs : s.size ≤ 1000000) :
    Calls Tryz.prog 139 #[.string s] w fun e w' => e = .returned (.bool (sg (bs s)).isSome) ∧ Below w.heap.size w w' := by
  have HC := Lib.hid (fun w' h => count_any s w' h hs)
  have HT := Lib.hid ht; clear ht
  cases hsg : sg (bs s) with
  | none =>
    rw [hsg] at HC
    go_enter Tryz.func139, Tryz.ntmps139
    go_wp2_with fail
    refine (HC.out _ HT.out).mono ?_
    rintro e w1 ⟨rfl, hb1⟩
    go_wp2
    go_ret
    exact ⟨rfl, hb1⟩
  | some ns =>
    rw [hsg] at HC
    go_enter Tryz.func139, Tryz.ntmps139
    go_wp2_with fail
    refine (HC.out _ HT.out).mono ?_
    rintro e w1 ⟨rfl, hb1⟩
    go_wp2
    go_ret
    exact ⟨rfl, hb1⟩

end Go.Proofs.YtebldfnocpcddaaGreatDoor

/-
  The examples that each law of layer utf asks first, and the two tables out of the row's condition.
-/
namespace Go.Proofs.YtebldfnocpcddaaGreatDoor
open Go.RowKit

theorem utab_of {W : World} {l : List (String × DataW Unit)} (hl : (l.filter fun x => x.2.handleName?.isSome) = []) (h1 : ("haulage/utf.least", Rows.laid_haulage_utf_least) ∈ l) (h2 : ("haulage/utf.firstMark", Rows.laid_haulage_utf_firstMark) ∈ l) (h : laidMetH Tryz.prog l W) : UTab W := by
  have h' : laidMet Tryz.prog l W := by
    unfold laidMetH at h
    rw [hl] at h
    exact h
  have e1 : (Rows.laid_haulage_utf_least : DataW Unit) = Lib.tabData .i64 ((List.range 4).map fun i => ((lst (i + 1) : Nat) : Int)) := by kernel_rfl
  have e2 : (Rows.laid_haulage_utf_firstMark : DataW Unit) = Lib.tabData .i64 ((List.range 4).map fun i => ((mark (i + 1) : Nat) : Int)) := by kernel_rfl
  rw [e1] at h1
  rw [e2] at h2
  have t1 := tabIs_of_mem (g := 6) (t := 179) (e := 3) (by kernel_rfl) (by kernel_rfl) Tryz.underlying179 Tryz.underlying3 (by kernel_rfl) (by kernel_rfl) h1 h'
  have t2 := tabIs_of_mem (g := 5) (t := 179) (e := 3) (by kernel_rfl) (by kernel_rfl) Tryz.underlying179 Tryz.underlying3 (by kernel_rfl) (by kernel_rfl) h2 h'
  refine ⟨fun i hi => ?_, fun i hi => ?_⟩
  · have := t2.cell (g := 5) (by kernel_rfl) i (by simpa using hi)
    rw [this]
    simp [List.getD, hi]
  · have := t1.cell (g := 6) (by kernel_rfl) i (by simpa using hi)
    rw [this]
    simp [List.getD, hi]

theorem enc_euro : enc 8364 = [226, 130, 172] := by decide +kernel
theorem sg_bad : sg [237, 160, 128] = none := sg_none (by decide +kernel) (by simp)
theorem sg_ab : (sg [97, 98]).isSome = true := by
  have := sg_text [97, 98] (fun n hn => by
    rcases (show n = 97 ∨ n = 98 by simpa using hn) with rfl | rfl
    · decide
    · decide) []
  rw [show text [97, 98] ++ [] = [97, 98] by decide +kernel, sg_nil] at this
  rw [this]; rfl

theorem cmp_ne {a b : ByteArray} (h : a ≠ b) : (a.toList == b.toList) = false := by
  rw [ByteArray.toList_eq, ByteArray.toList_eq]
  exact beq_eq_false_iff_ne.2 fun e => h (bs_eq e)
theorem cmp_eq {a b : ByteArray} (h : bs a = bs b) : (a.toList == b.toList) = true := by
  rw [bs_eq h]; simp
/-- no encoding begins with another one -/
theorem enc_prefix {n m k : Nat} (hn : isP n = true) (h : (enc m).take k = enc n) (hm : isP m = true) : n = m := by
  have h1 := rd_of_take (l := enc m) (k := k) hn h.symm
  have h2 := rd_enc m [] hm
  rw [List.append_nil, h1] at h2
  simp only [Option.some.injEq, Prod.mk.injEq] at h2
  exact h2.1

theorem count_some (s : ByteArray) (ns : List Nat) (w : World) (ht : UTab w) (hs : s.size ≤ 1000000) (h : sg (bs s) = some ns) :
    Calls Tryz.prog 150 #[.string s] w fun e w' => e = .returned (.int .i64 (ns.length : Nat)) ∧ Below w.heap.size w w' := by
  have := count_any s w ht hs
  rw [h] at this
  exact this
theorem count_none (s : ByteArray) (w : World) (ht : UTab w) (hs : s.size ≤ 1000000) (h : sg (bs s) = none) :
    Calls Tryz.prog 150 #[.string s] w fun e w' => e = .returned (.int .i64 (-1)) ∧ Below w.heap.size w w' := by
  have := count_any s w ht hs
  rw [h] at this
  exact this
theorem right_as (s : ByteArray) (b : Bool) (w : World) (ht : UTab w) (hs : s.size ≤ 1000000) (h : (sg (bs s)).isSome = b) :
    Calls Tryz.prog 139 #[.string s] w fun e w' => e = .returned (.bool b) ∧ Below w.heap.size w w' := by
  have := right_any s w ht hs
  rw [h] at this
  exact this
theorem rsigns_none (s : ByteArray) (w : World) (hs : s.size ≤ 1000000) (h : sg (bs s) = none) :
    Calls Tryz.prog 76 #[.string s] w fun e w' => e = .returned (.tuple #[.slice none 0 0, .bool false]) ∧ Below w.heap.size w w' :=
  (rsigns_any s w hs).mono fun e w' ⟨v, b, h1, h2, h3⟩ => by
    rcases h2 with ⟨ns, h4, _⟩ | ⟨_, h5, h6⟩
    · rw [h] at h4; cases h4
    · rw [h5, h6] at h1; exact ⟨h1, h3⟩
theorem rsigns_some (s : ByteArray) (ns : List Nat) (w : World) (hs : s.size ≤ 1000000) (h : sg (bs s) = some ns) :
    Calls Tryz.prog 76 #[.string s] w fun e w' => ∃ A c, e = .returned (.tuple #[.slice A ns.length c, .bool true]) ∧ IntsAt w' w'.heap.size A (toI ns) ∧ Below w.heap.size w w' :=
  (rsigns_any s w hs).mono fun e w' ⟨v, b, h1, h2, h3⟩ => by
    rcases h2 with ⟨ns', h4, h5, h7⟩ | ⟨h4, _⟩
    · rw [h] at h4; cases h4
      obtain ⟨A, c, rfl, h6⟩ := IntsAt.of_own h5
      rw [toI_length, h7] at h1
      exact ⟨A, c, h1, h6, h3⟩
    · rw [h] at h4; cases h4
theorem txtV_toI {l : List UInt8} {ns : List Nat} (h : sg l = some ns) : txtV (toI ns) = (l, true) := by
  obtain ⟨h1, h2⟩ := sg_back h
  have e : (toI ns).map Int.toNat = ns := by simp [toI, List.map_map, Function.comp_def]
  have ha : (toI ns).all isP = true := by
    rw [List.all_eq_true]
    intro z hz
    obtain ⟨n, hn, rfl⟩ := List.mem_map.1 hz
    exact h2 n hn
  unfold txtV
  rw [if_pos ha, txt, e, h1]
theorem sg_len {l : List UInt8} {ns : List Nat} (h : sg l = some ns) : ns.length ≤ l.length := by
  have := text_length ns
  rwa [(sg_back h).1] at this
end Go.Proofs.YtebldfnocpcddaaGreatDoor
