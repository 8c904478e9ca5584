/-
  Texts that the proof needs, one behind the other: UtfRefMoreC, UtfEachC, UtfAllC, Tabs, UtfLivesC, NameMath, ValMath, NameC, ValC, QuietB, TypC, TypWideC, TypMath, ValRightC, TypFitC.
-/
import Derived.Shelf.Abstract
import Derived.Test.YthmjgaekcghonaaGreatDoorRows
import Derived.Lib.LaidTab
import Derived.LaidMore
import Derived.Stop.Joined
import Derived.WalkKit
import Derived.Deep.RegionWith
import Derived.BigQuiet
import Derived.Deep.QuietTactic
import Derived.Handy
import Derived.Below
import Derived.Test.YthmjgaekcghonaaGreatDoorPart1

/-
  Contracts of the document's own Signs, Right, Text, Cut, Same.
-/
namespace Go.Proofs.YthmjgaekcghonaaGreatDoor
open Go.RowKit

theorem rread_yes (s : ByteArray) (n k : Nat) (w : World) (hs : s.size ≤ 9223372036854775807) (h : rd (bs s) = some (n, k)) :
    Calls Tryz.prog 125 #[.string s] w fun e w' => e = .returned (.tuple #[.int .i64 n, .int .i64 k, .bool true]) ∧ Below w.heap.size w w' := by
  have := rread_any s w hs
  rw [rdV_some h] at this
  exact this
theorem rread_no (s : ByteArray) (w : World) (hs : s.size ≤ 9223372036854775807) (h : rd (bs s) = none) :
    Calls Tryz.prog 125 #[.string s] w fun e w' => e = .returned (.tuple #[.int .i64 0, .int .i64 0, .bool false]) ∧ Below w.heap.size w w' := by
  have := rread_any s w hs
  rw [rdV_none h] at this
  exact this

/-- numbers as ints -/
def toI (ns : List Nat) : List Int := ns.map fun n : Nat => (n : Int)
theorem toI_snoc (ns : List Nat) (n : Nat) : toI (ns ++ [n]) = toI ns ++ [(n : Int)] := by simp [toI]
theorem toI_length (ns : List Nat) : (toI ns).length = ns.length := by simp [toI]
/-- what Signs hands back -/
def signsV (l : List UInt8) (w' : World) (base : Nat) (v : Value) (b : Bool) : Prop :=
  (∃ ns, sg l = some ns ∧ OwnI w' base v (toI ns) ∧ b = true) ∨ (sg l = none ∧ v = .slice none 0 0 ∧ b = false)

set_option maxRecDepth 100000 in
set_option maxHeartbeats 800000 in
theorem rsigns_any (s : ByteArray) (w : World) (hs : s.size ≤ 1000000) :
    Calls Tryz.prog 119 #[.string s] w fun e w' => ∃ v b, e = .returned (.tuple #[v, .bool b]) ∧ signsV (bs s) w' w.heap.size v b ∧ Below w.heap.size w w' := by
  go_enter Tryz.func119, Tryz.ntmps119
  go_wp2_with fail
  go_loopw [0, 4] (fun x v wr => ∃ (r : ByteArray) (p : Nat) (ns : List Nat), x = .string r ∧ Hid (bs r = (bs s).drop p) ∧ r.size + p = s.size ∧ Hid (Got (bs s) ns p) ∧ OwnI wr w.heap.size v (toI ns) ∧ Below w.heap.size w wr) (fun x _ _ => strSize x)
  case atStart => exact ⟨s, 0, [], rfl, by show _ = _; rw [List.drop_zero], by omega, Got.zero _, OwnI.nil _ _, Below.refl _ _⟩
  case round =>
    obtain ⟨r, p, ns, rfl, hr, hp, hg, ho, hb⟩ := hrel
    have HO := Lib.hid ho; clear ho
    have hsz := hb.size
    by_cases h0 : r.size = 0
    · have hg2 := hg.out
      rw [show p = (bs s).length by rw [bs_length]; omega] at hg2
      obtain rfl := is_empty r h0
      have Hd := Lib.hid hg2.done
      clear hg2
      go_wp2_with fail
      go_ret2
      exact ⟨_, _, rfl, .inl ⟨ns, Hd.out, HO.out, rfl⟩, hb⟩
    · have hne := ne_empty r (by omega)
      cases hrd : rd (bs r) with
      | none =>
        have Hno : Hid (sg (bs s) = none) := hg.out.stop (by rw [bs_length]; omega) (by rw [← hr.out]; exact hrd)
        have Hrd := Lib.hid hrd; clear hrd
        go_wp2_with (go_at_call 125; refine (rread_no r _ (by omega) Hrd.out).mono ?_; rintro e w1 ⟨rfl, hb1⟩)
        go_ret2
        exact ⟨_, _, rfl, .inr ⟨Hno.out, rfl, rfl⟩, hb.trans (hb1.mono hsz)⟩
      | some q =>
        obtain ⟨n, k⟩ := q
        have hpos := rd_pos hrd
        rw [bs_length] at hpos
        have Hg2 := Lib.hid (hg.out.more (by rw [← hr.out]; exact hrd))
        have Hr2 : Hid (bs (r.extract k r.size) = (bs s).drop (p + k)) := by
          show _ = _
          rw [bs_rest, hr.out, List.drop_drop]
        have hlen := hg.out.len
        have Hrd := Lib.hid hrd; clear hrd
        go_wp2_with fail
        refine (rread_yes r n k _ (by omega) Hrd.out).mono ?_
        rintro e w1 ⟨rfl, hb1⟩
        have hs1 := hb1.size
        have ho1 := HO.out.below hb1
        go_wp2_with (at_builtin; refine wpList_append_int rfl _ _ rfl w.heap.size _ (toI ns) n ho1 rfl rfl (by rw [toI_length]; omega) (by omega) ?_; intro v' w2 ho2 _ hb2)
        go_roundw
        case rel => exact ⟨r.extract k r.size, p + k, ns ++ [n], by simp, Hr2, by simp; omega, Hg2, by rw [toI_snoc]; exact ho2, (hb.trans (hb1.mono hsz)).trans hb2⟩
        case measure => simp [strSize]; omega

set_option maxRecDepth 100000 in
set_option maxHeartbeats 400000 in
theorem rright_any (s : ByteArray) (w : World) (hs : s.size ≤ 1000000) :
    Calls Tryz.prog 101 #[.string s] w fun e w' => e = .returned (.bool (sg (bs s)).isSome) ∧ Below w.heap.size w w' := by
  go_enter Tryz.func101, Tryz.ntmps101
  go_wp2_with fail
  refine (rsigns_any s _ hs).mono ?_
  rintro e w1 ⟨v, b, rfl, hv, hb1⟩
  have Hv : Hid (b = (sg (bs s)).isSome) := by
    show _ = _
    rcases hv with ⟨ns, h1, _, h3⟩ | ⟨h1, _, h3⟩
    · rw [h1, h3]; rfl
    · rw [h1, h3]; rfl
  clear hv
  go_wp2
  go_ret
  exact ⟨by rw [Hv.out]; rfl, hb1⟩

/-- the bytes of ints, if each is a code point -/
def txt (zs : List Int) : List UInt8 := text (zs.map Int.toNat)
theorem txt_snoc (zs : List Int) (n : Nat) : txt (zs ++ [(n : Int)]) = txt zs ++ enc n := by
  unfold txt; rw [List.map_append, text_append]; simp [text]
theorem txt_length (zs : List Int) : (txt zs).length ≤ 4 * zs.length := by
  have := text_length_le (zs.map Int.toNat)
  simpa [txt] using this
/-- what Text hands back -/
def txtV (zs : List Int) : List UInt8 × Bool := if zs.all isP then (txt zs, true) else ([], false)
theorem txtV_bad {zs : List Int} {k : Nat} (hk : k < zs.length) (h : isP zs[k] = false) : txtV zs = ([], false) := by
  unfold txtV
  rw [if_neg]
  intro h2
  rw [List.all_eq_true] at h2
  rw [h2 _ (List.getElem_mem hk)] at h; cases h
theorem txtV_good {zs : List Int} (h : (zs.take zs.length).all isP = true) : txtV zs = (txt zs, true) := by
  unfold txtV
  rw [List.take_length] at h
  rw [if_pos h]
theorem all_take {zs : List Int} {k : Nat} (hk : k < zs.length) (h : (zs.take k).all isP = true) (h2 : isP zs[k] = true) : (zs.take (k + 1)).all isP = true := by
  rw [List.take_succ_eq_append_getElem hk, List.all_append, h]; simp [h2]
theorem isP_nat {z : Int} (h : isP z = true) : ∃ n : Nat, z = n ∧ isP n = true ∧ n ≤ 1114111 := by
  have h' := (isP_iff z).1 h
  obtain ⟨n, rfl⟩ := Int.eq_ofNat_of_zero_le h'.1
  exact ⟨n, rfl, h, by omega⟩

theorem cut_ex (l : List UInt8) (most : Int) : ∀ p : Nat, ∃ c, CutAt l most p c
  | 0 => ⟨0, CutAt.zero _ _⟩
  | p + 1 => by
    obtain ⟨c, h1, h2, h3⟩ := cut_ex l most p
    by_cases hq : ((p + 1 : Nat) : Int) ≤ most ∧ (sg (l.take (p + 1))).isSome = true
    · exact ⟨p + 1, by omega, .inr hq, fun j h4 h5 => by omega⟩
    · refine ⟨c, by omega, h2, fun j h4 h5 h6 => ?_⟩
      by_cases hj : j ≤ p
      · exact h3 j h4 hj h6
      · obtain rfl : j = p + 1 := by omega
        cases hs : sg (l.take (p + 1)) with
        | none => rfl
        | some x => exact absurd ⟨h6, by rw [hs]; rfl⟩ hq

end Go.Proofs.YthmjgaekcghonaaGreatDoor

/-
  Contracts of utf.each, Count, Signs, Right, Cut, Text.
-/
namespace Go.Proofs.YthmjgaekcghonaaGreatDoor
open Go.RowKit

theorem UTab.under {w w' : World} {B : Nat} (h : UTab w) (hb : Below B w w') (h1 : 0 < B) (h2 : 1 < B) : UTab w' :=
  ⟨fun i hi => (hb.cell (p := ⟨0, i, none⟩) h1).trans (h.1 i hi), fun i hi => (hb.cell (p := ⟨1, i, none⟩) h2).trans (h.2 i hi)⟩

set_option maxRecDepth 100000 in
set_option maxHeartbeats 800000 in
theorem each_any (s : ByteArray) (F B : Nat) (caps : Array Value) (I : List Nat → Nat → World → Prop) (w : World) (ht : UTab w) (hs : s.size ≤ 1000000) (h1 : 0 < B) (h2 : 1 < B) (hB : B ≤ w.heap.size)
    (hF : ∀ args w, (callFunc F args).run Tryz.prog w = .ok (.enter F args) w)
    (hkeep : ∀ ns p wr wr', I ns p wr → Below wr.heap.size wr wr' → I ns p wr')
    (hcall : ∀ ns p n k wr, Got (bs s) ns p → rd ((bs s).drop p) = some (n, k) → I ns p wr → B ≤ wr.heap.size →
      Calls Tryz.prog F (#[.int .i64 (n : Int), .int .i64 ((p + k : Nat) : Int)] ++ caps) wr fun e w' => e = .returned (.tuple #[]) ∧ I (ns ++ [n]) (p + k) w' ∧ Below B wr w')
    (h0 : I [] 0 w) :
    Calls Tryz.prog 133 #[.string s, .func (.func F) #[] caps] w fun e w' => e = .returned (.bool (sg (bs s)).isSome) ∧ (∀ ns, sg (bs s) = some ns → I ns s.size w') ∧ Below B w w' := by
  have HT := Lib.hid ht; clear ht
  have HK := Lib.hid hkeep; clear hkeep
  have HC := Lib.hid hcall; clear hcall
  go_enter Tryz.func133, Tryz.ntmps133
  go_wp2_with fail
  go_loopw [5] (fun i wr => ∃ (p : Nat) (ns : List Nat), p ≤ s.size ∧ i = .int .i64 p ∧ Hid (Got (bs s) ns p) ∧ Hid (I ns p wr) ∧ Below B w wr) (fun i _ => s.size - (intOf i).toNat)
  case atStart => exact ⟨0, [], by omega, rfl, Got.zero _, h0, Below.refl _ _⟩
  case round =>
    obtain ⟨p, ns, hp, rfl, hg, hI, hb⟩ := hrel
    have hsz := hb.size
    by_cases hlt : p < s.size
    · have Hbr := Lib.hid (bs_rest s p)
      have hsl : (s.extract p s.size).size = s.size - p := by simp
      have HTr := Lib.hid (HT.out.under hb h1 h2)
      cases hrd : rd ((bs s).drop p) with
      | none =>
        have Hno := Lib.hid (hg.out.stop (by rw [bs_length]; exact hlt) hrd)
        have Hrd : Hid (rd (bs (s.extract p s.size)) = none) := by show _ = _; rw [Hbr.out]; exact hrd
        clear hrd
        go_wp2_with fail
        refine (read_no (s.extract p s.size) _ HTr.out (by omega) Hrd.out).mono ?_
        rintro e w1 ⟨rfl, hb1⟩
        go_wp2
        go_ret
        exact ⟨by rw [Hno.out]; rfl, (fun ns' h => by rw [Hno.out] at h; cases h), hb.trans (hb1.mono (by omega))⟩
      | some q =>
        obtain ⟨n, k⟩ := q
        have hpos := rd_pos hrd
        rw [List.length_drop, bs_length] at hpos
        have Hrd : Hid (rd (bs (s.extract p s.size)) = some (n, k)) := by show _ = _; rw [Hbr.out]; exact hrd
        have Hg2 := Lib.hid (hg.out.more hrd)
        have Hcl := Lib.hid (fun wr hi hb => HC.out ns p n k wr hg.out hrd hi hb)
        clear hrd
        go_wp2_with fail
        refine (read_yes (s.extract p s.size) n k _ HTr.out (by omega) Hrd.out).mono ?_
        rintro e w1 ⟨rfl, hb1⟩
        have hI1 := Lib.hid (HK.out _ _ _ _ hI.out hb1)
        have hs1 := hb1.size
        go_wp2_with fail
        refine (Hcl.out w1 hI1.out (by omega)).mono ?_
        rintro e w2 ⟨rfl, hI2, hb2⟩
        have HI2 := Lib.hid hI2; clear hI2
        go_wp2
        go_roundw
        case rel => exact ⟨p + k, ns ++ [n], by omega, by go_num, Hg2, HI2, (hb.trans (hb1.mono (by omega))).trans hb2⟩
        case measure => simp [intOf]; omega
    · obtain rfl : p = s.size := by omega
      have hg2 := hg.out
      rw [← bs_length s] at hg2
      have Hd := Lib.hid hg2.done
      clear hg2
      go_wp2_with fail
      go_ret
      exact ⟨by rw [Hd.out]; rfl, (fun ns' h => by rw [Hd.out] at h; cases h; exact hI.out), hb⟩

/-- a variable of one cell -/
def One (w : World) (b : Nat) (v : Value) (t : TypeId) : Prop := w.heap[b]? = some (.cells #[v] t (0, 0))
theorem One.keep {w w' : World} {b B : Nat} {v : Value} {t : TypeId} (h : One w b v t) (hb : Below B w w') (hB : b < B) : One w' b v t := by
  unfold One at h ⊢
  rw [← h]; exact hb.block b hB
theorem One.lt {w : World} {b : Nat} {v : Value} {t : TypeId} (h : One w b v t) : b < w.heap.size := (Array.getElem?_eq_some_iff.1 h).1

set_option maxRecDepth 100000 in
set_option maxHeartbeats 400000 in
theorem count1_any (Bn m : Nat) (x y : Int) (w : World) (h : One w Bn (.int .i64 m) 3) (hm : m < 4611686018427387904) :
    Calls Tryz.prog 134 #[.int .i64 x, .int .i64 y, .pointer (some ⟨Bn, 0, none⟩)] w fun e w' => e = .returned (.tuple #[]) ∧ One w' Bn (.int .i64 (m + 1 : Nat)) 3 ∧ Below Bn w w' := by
  have hc := cell_of_one h
  have hf := free_of_one h
  have R : One (w.setCell ⟨Bn, 0, none⟩ (.int .i64 ((m : Int) + 1))) Bn (.int .i64 (m + 1 : Nat)) 3 := one_setCell h
  have HR := Lib.hid R; clear R
  have H := Lib.hid h; clear h
  go_enter Tryz.func134, Tryz.ntmps134
  go_wp2
  go_end0
  exact ⟨rfl, HR.out, (Below.refl Bn w).setCell (p := ⟨Bn, 0, none⟩) (Nat.le_refl _) _⟩
theorem entersCount : ∀ args w, (callFunc 134 args).run Tryz.prog w = .ok (.enter 134 args) w := Go.Proofs.enters_of Tryz.func134 (by kernel_rfl) rfl

set_option maxRecDepth 100000 in
set_option maxHeartbeats 400000 in
theorem count_any (s : ByteArray) (w : World) (ht : UTab w) (hs : s.size ≤ 1000000) :
    Calls Tryz.prog 131 #[.string s] w fun e w' => e = .returned (.int .i64 (match sg (bs s) with | some ns => (ns.length : Int) | none => -1)) ∧ Below w.heap.size w w' := by
  have HT := Lib.hid ht; clear ht
  have hmf : ∀ (fn : Fn) (first cap : Array Value) (w : World), (Instr.makeFunc fn first cap).run Tryz.prog w = .ok (.func fn first cap) w := fun _ _ _ _ => rfl
  have h1 : One (w.alloc (.cells #[.int .i64 0] 3)) w.heap.size (.int .i64 (([] : List Nat).length : Nat)) 3 := heap_alloc_new w _
  have H1 := Lib.hid h1; clear h1
  have Heach := Lib.hid (each_any s 134 w.heap.size #[.pointer (some ⟨w.heap.size, 0, none⟩)] (fun ns _ wr => One wr w.heap.size (.int .i64 (ns.length : Nat)) 3) (w.alloc (.cells #[.int .i64 0] 3)) (HT.out.alloc _) hs
    HT.out.pos.1 HT.out.pos.2 (by simp) entersCount (fun ns p wr wr' h hb => h.keep hb h.lt)
    (fun ns p n k wr hg hr hI hB => (count1_any w.heap.size ns.length _ _ wr hI (by have := hg.len; have := hg.2.2; rw [bs_length] at this; omega)).mono fun e w' ⟨h1, h2, h3⟩ => ⟨h1, by rw [List.length_append]; exact h2, h3⟩) H1.out)
  cases hsg : sg (bs s) with
  | none =>
    have Hsg := Lib.hid hsg; clear hsg
    go_enter Tryz.func131, Tryz.ntmps131
    go_wp2_with fail
    refine Heach.out.mono ?_
    rintro e w1 ⟨rfl, _, hb1⟩
    rw [Hsg.out]
    go_wp2
    go_ret
    exact ⟨rfl, ((Below.refl _ _).alloc (Nat.le_refl _) _).trans hb1⟩
  | some ns =>
    have Hsg := Lib.hid hsg; clear hsg
    go_enter Tryz.func131, Tryz.ntmps131
    go_wp2_with fail
    refine Heach.out.mono ?_
    rintro e w1 ⟨rfl, h2, hb1⟩
    rw [Hsg.out]
    have hc := cell_of_one (h2 ns Hsg.out)
    clear h2
    go_wp2
    go_ret
    exact ⟨rfl, ((Below.refl _ _).alloc (Nat.le_refl _) _).trans hb1⟩
end Go.Proofs.YthmjgaekcghonaaGreatDoor

/-
  Contracts of utf.Right, Signs, Cut, Text.
-/
namespace Go.Proofs.YthmjgaekcghonaaGreatDoor
open Go.RowKit

set_option maxRecDepth 100000 in
set_option maxHeartbeats 400000 in
theorem right_any (s : ByteArray) (w : World) (ht : UTab w) (hs : s.size ≤ 1000000) :
    Calls Tryz.prog 128 #[.string s] w fun e w' => e = .returned (.bool (sg (bs s)).isSome) ∧ Below w.heap.size w w' := by
  have HC := Lib.hid (fun w' h => count_any s w' h hs)
  have HT := Lib.hid ht; clear ht
  cases hsg : sg (bs s) with
  | none =>
    rw [hsg] at HC
    go_enter Tryz.func128, Tryz.ntmps128
    go_wp2_with fail
    refine (HC.out _ HT.out).mono ?_
    rintro e w1 ⟨rfl, hb1⟩
    go_wp2
    go_ret
    exact ⟨rfl, hb1⟩
  | some ns =>
    rw [hsg] at HC
    go_enter Tryz.func128, Tryz.ntmps128
    go_wp2_with fail
    refine (HC.out _ HT.out).mono ?_
    rintro e w1 ⟨rfl, hb1⟩
    go_wp2
    go_ret
    exact ⟨rfl, hb1⟩

end Go.Proofs.YthmjgaekcghonaaGreatDoor

/-
  Tables at package level: out of the row's condition, wherever they stand on its list.
-/
namespace Go.Proofs.YthmjgaekcghonaaGreatDoor

theorem laidMet_tail {P : Program} {W : World} {x : String × DataW Unit} {rest : List (String × DataW Unit)} (h : laidMet P (x :: rest) W) : laidMet P rest W := by
  obtain ⟨ps, ⟨g, t, cs, fuel, p, q, _, _, _, _, hr, hps⟩, hnd, hall⟩ := h
  subst hps
  exact ⟨q, hr, (List.nodup_append.1 hnd).2.1, fun b off hm => hall b off (List.mem_append_right _ hm)⟩
theorem tabIs_of_mem {P : Program} {W : World} {name : String} {k : IntKind} {zs : List Int} {g : Nat} {t e : TypeId} {n : Nat}
    (hg : P.globalNamed name = some g) (hty : (P.globals[g]?).map (·.type) = some t) (ht : P.underlying t = some (.array n e)) (he : P.underlying e = some (.int k)) (hce : P.cellsOf e = 1) (hct : P.cellsOf t = n) :
    ∀ {l : List (String × DataW Unit)}, (name, Lib.tabData k zs) ∈ l → laidMet P l W → Lib.TabIs P W name k zs
  | x :: rest, hm, h => by
    rcases List.mem_cons.1 hm with rfl | hm
    · exact Lib.tabIs_of_head hg hty ht he hce hct h
    · exact tabIs_of_mem hg hty ht he hce hct hm (laidMet_tail h)
end Go.Proofs.YthmjgaekcghonaaGreatDoor

/-
  The examples that each law of layer utf asks first, and the two tables out of the row's condition.
-/
namespace Go.Proofs.YthmjgaekcghonaaGreatDoor
open Go.RowKit

theorem utab_of {W : World} {l : List (String × DataW Unit)} (hl : (l.filter fun x => x.2.handleName?.isSome) = []) (h1 : ("haulage/utf.least", Rows.laid_haulage_utf_least) ∈ l) (h2 : ("haulage/utf.firstMark", Rows.laid_haulage_utf_firstMark) ∈ l) (h : laidMetH Tryz.prog l W) : UTab W := by
  have h' : laidMet Tryz.prog l W := by
    unfold laidMetH at h
    rw [hl] at h
    exact h
  have e1 : (Rows.laid_haulage_utf_least : DataW Unit) = Lib.tabData .i64 ((List.range 4).map fun i => ((lst (i + 1) : Nat) : Int)) := by kernel_rfl
  have e2 : (Rows.laid_haulage_utf_firstMark : DataW Unit) = Lib.tabData .i64 ((List.range 4).map fun i => ((mark (i + 1) : Nat) : Int)) := by kernel_rfl
  rw [e1] at h1
  rw [e2] at h2
  have t1 := tabIs_of_mem (g := 1) (t := 143) (e := 3) (by kernel_rfl) (by kernel_rfl) Tryz.underlying143 Tryz.underlying3 (by kernel_rfl) (by kernel_rfl) h1 h'
  have t2 := tabIs_of_mem (g := 0) (t := 143) (e := 3) (by kernel_rfl) (by kernel_rfl) Tryz.underlying143 Tryz.underlying3 (by kernel_rfl) (by kernel_rfl) h2 h'
  refine ⟨fun i hi => ?_, fun i hi => ?_⟩
  · have := t2.cell (g := 0) (by kernel_rfl) i (by simpa using hi)
    rw [this]
    simp [List.getD, hi]
  · have := t1.cell (g := 1) (by kernel_rfl) i (by simpa using hi)
    rw [this]
    simp [List.getD, hi]

theorem enc_euro : enc 8364 = [226, 130, 172] := by decide +kernel
theorem sg_bad : sg [237, 160, 128] = none := sg_none (by decide +kernel) (by simp)
theorem sg_ab : (sg [97, 98]).isSome = true := by
  have := sg_text [97, 98] (fun n hn => by
    rcases (show n = 97 ∨ n = 98 by simpa using hn) with rfl | rfl
    · decide
    · decide) []
  rw [show text [97, 98] ++ [] = [97, 98] by decide +kernel, sg_nil] at this
  rw [this]; rfl

theorem cmp_ne {a b : ByteArray} (h : a ≠ b) : (a.toList == b.toList) = false := by
  rw [ByteArray.toList_eq, ByteArray.toList_eq]
  exact beq_eq_false_iff_ne.2 fun e => h (bs_eq e)
theorem cmp_eq {a b : ByteArray} (h : bs a = bs b) : (a.toList == b.toList) = true := by
  rw [bs_eq h]; simp
/-- no encoding begins with another one -/
theorem enc_prefix {n m k : Nat} (hn : isP n = true) (h : (enc m).take k = enc n) (hm : isP m = true) : n = m := by
  have h1 := rd_of_take (l := enc m) (k := k) hn h.symm
  have h2 := rd_enc m [] hm
  rw [List.append_nil, h1] at h2
  simp only [Option.some.injEq, Prod.mk.injEq] at h2
  exact h2.1

theorem count_some (s : ByteArray) (ns : List Nat) (w : World) (ht : UTab w) (hs : s.size ≤ 1000000) (h : sg (bs s) = some ns) :
    Calls Tryz.prog 131 #[.string s] w fun e w' => e = .returned (.int .i64 (ns.length : Nat)) ∧ Below w.heap.size w w' := by
  have := count_any s w ht hs
  rw [h] at this
  exact this
theorem count_none (s : ByteArray) (w : World) (ht : UTab w) (hs : s.size ≤ 1000000) (h : sg (bs s) = none) :
    Calls Tryz.prog 131 #[.string s] w fun e w' => e = .returned (.int .i64 (-1)) ∧ Below w.heap.size w w' := by
  have := count_any s w ht hs
  rw [h] at this
  exact this
theorem right_as (s : ByteArray) (b : Bool) (w : World) (ht : UTab w) (hs : s.size ≤ 1000000) (h : (sg (bs s)).isSome = b) :
    Calls Tryz.prog 128 #[.string s] w fun e w' => e = .returned (.bool b) ∧ Below w.heap.size w w' := by
  have := right_any s w ht hs
  rw [h] at this
  exact this
theorem rsigns_none (s : ByteArray) (w : World) (hs : s.size ≤ 1000000) (h : sg (bs s) = none) :
    Calls Tryz.prog 119 #[.string s] w fun e w' => e = .returned (.tuple #[.slice none 0 0, .bool false]) ∧ Below w.heap.size w w' :=
  (rsigns_any s w hs).mono fun e w' ⟨v, b, h1, h2, h3⟩ => by
    rcases h2 with ⟨ns, h4, _⟩ | ⟨_, h5, h6⟩
    · rw [h] at h4; cases h4
    · rw [h5, h6] at h1; exact ⟨h1, h3⟩
theorem rsigns_some (s : ByteArray) (ns : List Nat) (w : World) (hs : s.size ≤ 1000000) (h : sg (bs s) = some ns) :
    Calls Tryz.prog 119 #[.string s] w fun e w' => ∃ A c, e = .returned (.tuple #[.slice A ns.length c, .bool true]) ∧ IntsAt w' w'.heap.size A (toI ns) ∧ Below w.heap.size w w' :=
  (rsigns_any s w hs).mono fun e w' ⟨v, b, h1, h2, h3⟩ => by
    rcases h2 with ⟨ns', h4, h5, h7⟩ | ⟨h4, _⟩
    · rw [h] at h4; cases h4
      obtain ⟨A, c, rfl, h6⟩ := IntsAt.of_own h5
      rw [toI_length, h7] at h1
      exact ⟨A, c, h1, h6, h3⟩
    · rw [h] at h4; cases h4
theorem txtV_toI {l : List UInt8} {ns : List Nat} (h : sg l = some ns) : txtV (toI ns) = (l, true) := by
  obtain ⟨h1, h2⟩ := sg_back h
  have e : (toI ns).map Int.toNat = ns := by simp [toI, List.map_map, Function.comp_def]
  have ha : (toI ns).all isP = true := by
    rw [List.all_eq_true]
    intro z hz
    obtain ⟨n, hn, rfl⟩ := List.mem_map.1 hz
    exact h2 n hn
  unfold txtV
  rw [if_pos ha, txt, e, h1]
theorem sg_len {l : List UInt8} {ns : List Nat} (h : sg l = some ns) : ns.length ≤ l.length := by
  have := text_length ns
  rwa [(sg_back h).1] at this
end Go.Proofs.YthmjgaekcghonaaGreatDoor

/-
  Names, the order of strings, quoted strings and paths, plainly. It speaks of no program.
-/
namespace Go.Proofs.YthmjgaekcghonaaGreatDoor

/-- is the byte a letter? -/
def isL (c : UInt8) : Bool := decide (97 ≤ c.toNat) && decide (c.toNat ≤ 122)
/-- may the byte stand in a name? -/
def isN (c : UInt8) : Bool := isL c || (decide (48 ≤ c.toNat) && decide (c.toNat ≤ 57)) || decide (c.toNat = 95)
theorem isN_of_isL {c : UInt8} (h : isL c = true) : isN c = true := by simp [isN, h]
/-- how many bytes of names stand at the beginning -/
def runN : List UInt8 → Nat
  | [] => 0
  | c :: r => if isN c then runN r + 1 else 0
/-- how far a name goes -/
def rdN : List UInt8 → Nat
  | [] => 0
  | c :: r => if isL c then runN (c :: r) else 0
/-- is it a name? -/
def rightN (l : List UInt8) : Bool := decide (0 < l.length) && decide (l.length ≤ 16) && decide (rdN l = l.length)

theorem runN_eq : ∀ {l : List UInt8} {k : Nat} {c : UInt8}, (∀ x ∈ l.take k, isN x = true) → l[k]? = some c → isN c = false → runN l = k
  | [], _, _, _, h, _ => by simp at h
  | a :: r, 0, c, _, h, hc => by
    simp at h; subst h
    simp [runN, hc]
  | a :: r, k + 1, c, hall, h, hc => by
    have ha : isN a = true := hall a (by simp)
    simp only [runN, ha, if_true]
    rw [runN_eq (l := r) (k := k) (c := c) (fun x hx => hall x (by simp [hx])) (by simpa using h) hc]
theorem runN_all : ∀ {l : List UInt8}, (∀ x ∈ l, isN x = true) → runN l = l.length
  | [], _ => rfl
  | a :: r, h => by
    have ha : isN a = true := h a (by simp)
    simp only [runN, ha, if_true]
    rw [runN_all (l := r) (fun x hx => h x (by simp [hx]))]; rfl
theorem rdN_cons {l : List UInt8} {c : UInt8} (h : l[0]? = some c) : rdN l = if isL c then runN l else 0 := by
  cases l with
  | nil => simp at h
  | cons a r => simp at h; subst h; rfl
theorem runN_le : ∀ l : List UInt8, runN l ≤ l.length
  | [] => by simp [runN]
  | c :: r => by
    have := runN_le r
    unfold runN; split <;> simp <;> omega
theorem rdN_le (l : List UInt8) : rdN l ≤ l.length := by
  cases l with
  | nil => simp [rdN]
  | cons c r => simp only [rdN]; split <;> first | exact runN_le _ | simp
theorem runN_full : ∀ {l : List UInt8}, runN l = l.length → ∀ x ∈ l, isN x = true
  | [], _, _, hx => by cases hx
  | a :: r, h, x, hx => by
    unfold runN at h
    split at h
    · rename_i ha
      simp at h
      rcases List.mem_cons.1 hx with rfl | hx
      · exact ha
      · exact runN_full h x hx
    · simp at h
theorem right_all {l : List UInt8} (h : rightN l = true) : ∀ x ∈ l, isN x = true := by
  simp only [rightN, Bool.and_eq_true, decide_eq_true_eq] at h
  obtain ⟨⟨h0, _⟩, h1⟩ := h
  cases l with
  | nil => intro x hx; cases hx
  | cons c r =>
    simp only [rdN] at h1
    split at h1
    · exact runN_full h1
    · simp at h1
theorem right_nodot {l : List UInt8} (h : rightN l = true) : (46 : UInt8) ∉ l := fun hm => by
  have := right_all h 46 hm
  revert this; decide
theorem right_len {l : List UInt8} (h : rightN l = true) : 0 < l.length ∧ l.length ≤ 16 := by
  simp only [rightN, Bool.and_eq_true, decide_eq_true_eq] at h
  exact h.1

/-- which of two strings stands first -/
def ordN : List UInt8 → List UInt8 → Int
  | [], [] => 0
  | [], _ :: _ => -1
  | _ :: _, [] => 1
  | a :: r, b :: s => if a.toNat < b.toNat then -1 else if b.toNat < a.toNat then 1 else ordN r s
/-- the sign of a number -/
def sgn (z : Int) : Int := if z < 0 then -1 else if 0 < z then 1 else 0
theorem drop_at {l : List UInt8} {k : Nat} {c : UInt8} (h : l[k]? = some c) : l.drop k = c :: l.drop (k + 1) := by
  obtain ⟨hk, h⟩ := List.getElem?_eq_some_iff.1 h
  rw [List.drop_eq_getElem_cons hk, h]
theorem ordN_ne {l m : List UInt8} {k : Nat} {a b : UInt8} (h : l[k]? = some a) (h2 : m[k]? = some b) (hne : a.toNat ≠ b.toNat) : ordN (l.drop k) (m.drop k) = sgn ((a.toNat : Int) - (b.toNat : Int)) := by
  rw [drop_at h, drop_at h2, ordN, sgn]
  by_cases hlt : a.toNat < b.toNat
  · rw [if_pos hlt, if_pos (by omega)]
  · rw [if_neg hlt, if_pos (by omega), if_neg (by omega), if_pos (by omega)]
theorem ordN_lt {l m : List UInt8} {k : Nat} {a b : UInt8} (h : l[k]? = some a) (h2 : m[k]? = some b) (hlt : a.toNat < b.toNat) : ordN (l.drop k) (m.drop k) = -1 := by
  rw [drop_at h, drop_at h2, ordN, if_pos hlt]
theorem ordN_gt {l m : List UInt8} {k : Nat} {a b : UInt8} (h : l[k]? = some a) (h2 : m[k]? = some b) (hlt : b.toNat < a.toNat) : ordN (l.drop k) (m.drop k) = 1 := by
  rw [drop_at h, drop_at h2, ordN, if_neg (by omega), if_pos hlt]
theorem ordN_eq {l m : List UInt8} {k : Nat} {a b : UInt8} (h : l[k]? = some a) (h2 : m[k]? = some b) (he : a.toNat = b.toNat) : ordN (l.drop k) (m.drop k) = ordN (l.drop (k + 1)) (m.drop (k + 1)) := by
  rw [drop_at h, drop_at h2, ordN, if_neg (by omega), if_neg (by omega)]
theorem ordN_end {l m : List UInt8} {k : Nat} (h1 : k ≤ l.length) (h2 : k ≤ m.length) (h : k = l.length ∨ k = m.length) : ordN (l.drop k) (m.drop k) = sgn ((l.length : Int) - (m.length : Int)) := by
  have e1 := @List.length_drop _ k l
  have e2 := @List.length_drop _ k m
  cases hl : l.drop k with
  | nil =>
    rw [hl] at e1; simp at e1
    cases hm : m.drop k with
    | nil => rw [hm] at e2; simp at e2; rw [ordN, sgn, if_neg (by omega), if_neg (by omega)]
    | cons b s => rw [hm] at e2; simp at e2; rw [ordN, sgn, if_pos (by omega)]
  | cons a r =>
    rw [hl] at e1; simp at e1
    cases hm : m.drop k with
    | nil => rw [hm] at e2; simp at e2; rw [ordN, sgn, if_neg (by omega), if_pos (by omega)]
    | cons b s => rw [hm] at e2; simp at e2; omega
theorem ordN_turn : ∀ l m : List UInt8, ordN m l = - ordN l m
  | [], [] => rfl
  | [], _ :: _ => rfl
  | _ :: _, [] => rfl
  | a :: r, b :: s => by
    simp only [ordN]
    rw [ordN_turn r s]
    by_cases h1 : a.toNat < b.toNat
    · rw [if_pos h1, if_neg (by omega), if_pos h1]; rfl
    · by_cases h2 : b.toNat < a.toNat
      · rw [if_pos h2, if_neg h1, if_pos h2]
      · rw [if_neg h2, if_neg h1, if_neg h1, if_neg h2]
theorem ordN_zero : ∀ {l m : List UInt8}, ordN l m = 0 → l = m
  | [], [], _ => rfl
  | [], _ :: _, h => by simp [ordN] at h
  | _ :: _, [], h => by simp [ordN] at h
  | a :: r, b :: s, h => by
    simp only [ordN] at h
    split at h
    · simp at h
    · split at h
      · simp at h
      · rw [ordN_zero h, show a = b from UInt8.toNat_inj.1 (by omega)]
theorem ordN_self : ∀ l : List UInt8, ordN l l = 0
  | [] => rfl
  | a :: r => by simp [ordN, ordN_self r]
theorem ordN_cases (l m : List UInt8) : ordN l m = -1 ∨ ordN l m = 0 ∨ ordN l m = 1 := by
  induction l generalizing m with
  | nil => cases m <;> simp [ordN]
  | cons a r ih =>
    cases m with
    | nil => simp [ordN]
    | cons b s =>
      simp only [ordN]
      split
      · simp
      · split
        · simp
        · exact ih s
theorem ordN_trans : ∀ {l m n : List UInt8}, ordN l m < 0 → ordN m n < 0 → ordN l n < 0
  | [], [], _, h, _ => by simp [ordN] at h
  | [], _ :: _, [], _, h => by simp [ordN] at h
  | [], _ :: _, _ :: _, _, _ => by simp [ordN]
  | _ :: _, [], _, h, _ => by simp [ordN] at h
  | _ :: _, _ :: _, [], _, h => by simp [ordN] at h
  | a :: r, b :: s, c :: t, h, h2 => by
    simp only [ordN] at h h2 ⊢
    by_cases h1 : a.toNat < b.toNat
    · by_cases h3 : b.toNat < c.toNat
      · rw [if_pos (by omega)]; decide
      · by_cases h4 : c.toNat < b.toNat
        · rw [if_neg h3, if_pos h4] at h2; simp at h2
        · rw [if_pos (by omega)]; decide
    · by_cases h5 : b.toNat < a.toNat
      · rw [if_neg h1, if_pos h5] at h; simp at h
      · rw [if_neg h1, if_neg h5] at h
        by_cases h3 : b.toNat < c.toNat
        · rw [if_pos (by omega)]; decide
        · by_cases h4 : c.toNat < b.toNat
          · rw [if_neg h3, if_pos h4] at h2; simp at h2
          · rw [if_neg h3, if_neg h4] at h2
            rw [if_neg (by omega), if_neg (by omega)]
            exact ordN_trans h h2
end Go.Proofs.YthmjgaekcghonaaGreatDoor

/-
  Numbers as decimal digits, and what a string begins with as a number, plainly. It speaks of no program.
-/
namespace Go.Proofs.YthmjgaekcghonaaGreatDoor

theorem snoc_cases (l : List UInt8) : l = [] ∨ ∃ r c, l = r ++ [c] := by
  rcases List.eq_nil_or_concat l with h | ⟨r, c, h⟩
  · exact .inl h
  · exact .inr ⟨r, c, by rw [h, List.concat_eq_append]⟩
/-- a decimal digit -/
def isD (c : UInt8) : Bool := decide (48 ≤ c.toNat) && decide (c.toNat ≤ 57)
theorem isD_iff (c : UInt8) : isD c = true ↔ 48 ≤ c.toNat ∧ c.toNat ≤ 57 := by simp [isD]
/-- the byte of a digit -/
def dg (n : Nat) : UInt8 := UInt8.ofNat (48 + n)
theorem dg_nat (n : Nat) (h : n < 10) : (dg n).toNat = 48 + n := by simp [dg]; omega
theorem isD_dg (n : Nat) (h : n < 10) : isD (dg n) = true := by rw [isD_iff, dg_nat n h]; omega
theorem dg_of {c : UInt8} (h : isD c = true) : dg (c.toNat - 48) = c := by
  rw [isD_iff] at h
  refine UInt8.toNat_inj.1 ?_
  rw [dg_nat _ (by omega)]; omega
/-- a number in decimal digits -/
def dn (n : Nat) : List UInt8 := if n < 10 then [dg n] else dn (n / 10) ++ [dg (n % 10)]
termination_by n
decreasing_by omega
theorem dn_lt {n : Nat} (h : n < 10) : dn n = [dg n] := by rw [dn, if_pos h]
theorem dn_ge {n : Nat} (h : 10 ≤ n) : dn n = dn (n / 10) ++ [dg (n % 10)] := by rw [dn, if_neg (by omega)]
/-- the number of digits -/
def dv (l : List UInt8) : Nat := l.foldl (fun a c => 10 * a + (c.toNat - 48)) 0
theorem dv_snoc (l : List UInt8) (c : UInt8) : dv (l ++ [c]) = 10 * dv l + (c.toNat - 48) := by simp [dv]
/-- all bytes are digits -/
def AllD (l : List UInt8) : Prop := ∀ c ∈ l, isD c = true
theorem AllD.snoc {l : List UInt8} {c : UInt8} (h : AllD (l ++ [c])) : AllD l ∧ isD c = true := ⟨fun x hx => h x (by simp [hx]), h c (by simp)⟩
theorem dn_all (n : Nat) : AllD (dn n) := by
  induction n using Nat.strongRecOn with
  | ind n ih =>
    by_cases h : n < 10
    · rw [dn_lt h]; intro c hc; simp at hc; subst hc; exact isD_dg n h
    · rw [dn_ge (by omega)]
      intro c hc
      rcases List.mem_append.1 hc with hc | hc
      · exact ih (n / 10) (by omega) c hc
      · simp at hc; subst hc; exact isD_dg _ (by omega)
theorem dn_ne (n : Nat) : dn n ≠ [] := by
  by_cases h : n < 10
  · rw [dn_lt h]; simp
  · rw [dn_ge (by omega)]; simp
theorem dv_dn (n : Nat) : dv (dn n) = n := by
  induction n using Nat.strongRecOn with
  | ind n ih =>
    by_cases h : n < 10
    · rw [dn_lt h]; simp [dv, dg_nat n h]
    · rw [dn_ge (by omega), dv_snoc, ih (n / 10) (by omega), dg_nat _ (by omega)]; omega
theorem dn_inj {a b : Nat} (h : dn a = dn b) : a = b := by rw [← dv_dn a, h, dv_dn]
theorem dv_lt : ∀ (k : Nat) (l : List UInt8), AllD l → l.length = k → dv l < 10 ^ k
  | 0, l, _, hk => by
    rw [List.eq_nil_of_length_eq_zero hk]; simp [dv]
  | k + 1, l, h, hk => by
    rcases snoc_cases l with rfl | ⟨r, c, rfl⟩
    · simp at hk
    · obtain ⟨h1, h2⟩ := h.snoc
      rw [isD_iff] at h2
      have h3 := dv_lt k r h1 (by simpa using hk)
      rw [dv_snoc, Nat.pow_succ]; omega
/-- canonical digits: no zero ahead of others -/
def Can (l : List UInt8) : Prop := l ≠ [] ∧ AllD l ∧ (l[0]? = some 48 → l.length = 1)
theorem Can.snoc {r : List UInt8} {c : UInt8} (h : Can (r ++ [c])) (hr : r ≠ []) : Can r ∧ r[0]? ≠ some 48 := by
  obtain ⟨_, h2, h3⟩ := h
  have h4 : r[0]? ≠ some 48 := fun e => by
    have hl : 0 < r.length := List.length_pos_iff.2 hr
    have := h3 (by rw [List.getElem?_append_left hl]; exact e)
    simp at this; exact hr this
  exact ⟨⟨hr, h2.snoc.1, fun e => absurd e h4⟩, h4⟩
theorem dv_ge : ∀ (k : Nat) (l : List UInt8), Can l → l[0]? ≠ some 48 → l.length = k + 1 → 10 ^ k ≤ dv l
  | 0, l, h, h0, hk => by
    obtain ⟨c, rfl⟩ : ∃ c, l = [c] := by
      cases l with
      | nil => simp at hk
      | cons c r => simp at hk; subst hk; exact ⟨c, rfl⟩
    have h1 := (isD_iff c).1 (h.2.1 c (by simp))
    have h2 : c.toNat ≠ 48 := fun e => h0 (by simp; exact UInt8.toNat_inj.1 e)
    simp [dv]; omega
  | k + 1, l, h, h0, hk => by
    rcases snoc_cases l with rfl | ⟨r, c, rfl⟩
    · simp at hk
    · have hr : r ≠ [] := fun e => by subst e; simp at hk
      obtain ⟨h1, h2⟩ := Can.snoc h hr
      have h3 := dv_ge k r h1 h2 (by simpa using hk)
      rw [dv_snoc, Nat.pow_succ]; omega
theorem dn_dv : ∀ (k : Nat) (l : List UInt8), Can l → l.length = k → dn (dv l) = l
  | 0, l, h, hk => absurd (List.eq_nil_of_length_eq_zero hk) h.1
  | k + 1, l, h, hk => by
    rcases snoc_cases l with rfl | ⟨r, c, rfl⟩
    · simp at hk
    · have hc := h.2.1.snoc.2
      have hc2 := (isD_iff c).1 hc
      by_cases hr : r = []
      · subst hr
        have e : dv ([] ++ [c]) = c.toNat - 48 := by simp [dv]
        rw [e, dn_lt (by omega), dg_of hc]; rfl
      · obtain ⟨h1, h2⟩ := Can.snoc h hr
        have h3 := dn_dv k r h1 (by simpa using hk)
        have h4 : 1 ≤ dv r := by
          obtain ⟨j, hj⟩ : ∃ j, r.length = j + 1 := ⟨r.length - 1, by have := List.length_pos_iff.2 hr; omega⟩
          have := dv_ge j r h1 h2 hj
          have := Nat.one_le_pow j 10 (by omega)
          omega
        rw [dv_snoc, dn_ge (by omega), show (10 * dv r + (c.toNat - 48)) / 10 = dv r by omega, show (10 * dv r + (c.toNat - 48)) % 10 = c.toNat - 48 by omega, h3, dg_of hc]
theorem dn_can (n : Nat) : Can (dn n) := by
  refine ⟨dn_ne n, dn_all n, ?_⟩
  induction n using Nat.strongRecOn with
  | ind n ih =>
    by_cases h : n < 10
    · rw [dn_lt h]; simp
    · rw [dn_ge (by omega), List.getElem?_append_left (List.length_pos_iff.2 (dn_ne _))]
      intro e
      have h1 := ih (n / 10) (by omega) e
      obtain ⟨c, hc⟩ : ∃ c, dn (n / 10) = [c] := by
        cases hd : dn (n / 10) with
        | nil => exact absurd hd (dn_ne _)
        | cons c r => rw [hd] at h1; simp at h1; subst h1; exact ⟨c, rfl⟩
      rw [hc] at e
      simp at e; subst e
      have h2 := dv_dn (n / 10)
      rw [hc] at h2
      simp [dv] at h2; omega
theorem dn_len (n k : Nat) (h : n < 10 ^ k) (hk : 1 ≤ k) : (dn n).length ≤ k := by
  induction k generalizing n with
  | zero => omega
  | succ k ih =>
    by_cases h1 : n < 10
    · rw [dn_lt h1]; simp
    · rw [dn_ge (by omega), List.length_append]
      have hk0 : 1 ≤ k := by
        cases k with
        | zero => simp at h; omega
        | succ j => omega
      have := ih (n / 10) (by rw [Nat.pow_succ] at h; omega) hk0
      simp; omega
/-- an integer in decimal digits -/
def dz (z : Int) : List UInt8 := if z < 0 then 45 :: dn z.natAbs else dn z.natAbs
theorem dz_neg {z : Int} (h : z < 0) : dz z = 45 :: dn z.natAbs := by rw [dz, if_pos h]
theorem dz_pos {z : Int} (h : 0 ≤ z) : dz z = dn z.natAbs := by rw [dz, if_neg (by omega)]
theorem dn_head (n : Nat) : ∃ c r, dn n = c :: r ∧ isD c = true := by
  have h := dn_all n
  cases hd : dn n with
  | nil => exact absurd hd (dn_ne n)
  | cons c r => exact ⟨c, r, rfl, h c (by rw [hd]; simp)⟩
theorem dz_inj {a b : Int} (h : dz a = dz b) : a = b := by
  obtain ⟨c, r, hc, hc2⟩ := dn_head a.natAbs
  obtain ⟨d, s, hd, hd2⟩ := dn_head b.natAbs
  by_cases ha : a < 0
  · by_cases hb : b < 0
    · rw [dz_neg ha, dz_neg hb] at h
      have := dn_inj (List.cons.inj h).2
      omega
    · rw [dz_neg ha, dz_pos (by omega), hd] at h
      have := (List.cons.inj h).1
      subst this; simp [isD] at hd2
  · by_cases hb : b < 0
    · rw [dz_pos (by omega), dz_neg hb, hc] at h
      have := (List.cons.inj h).1
      subst this; simp [isD] at hc2
    · rw [dz_pos (by omega), dz_pos (by omega)] at h
      have := dn_inj h
      omega
theorem dz_len (z : Int) (h1 : -9223372036854775808 ≤ z) (h2 : z < 9223372036854775808) : (dz z).length ≤ 20 := by
  have h3 := dn_len z.natAbs 19 (by omega) (by omega)
  unfold dz; split <;> simp <;> omega
theorem dz_ne (z : Int) : 0 < (dz z).length := by
  have := List.length_pos_iff.2 (dn_ne z.natAbs)
  unfold dz; split <;> simp <;> omega

/-- the digits ahead of what is none -/
def ldD (l : List UInt8) : List UInt8 := l.takeWhile isD
theorem ldD_all (l : List UInt8) : AllD (ldD l) := fun c hc => by
  unfold ldD at hc
  induction l with
  | nil => simp at hc
  | cons a r ih =>
    by_cases ha : isD a = true
    · rw [List.takeWhile_cons_of_pos ha] at hc
      rcases List.mem_cons.1 hc with rfl | hc
      · exact ha
      · exact ih hc
    · rw [List.takeWhile_cons_of_neg ha] at hc; cases hc
theorem ldD_take (l : List UInt8) : l.take (ldD l).length = ldD l := by
  unfold ldD
  induction l with
  | nil => simp
  | cons a r ih =>
    by_cases ha : isD a = true
    · rw [List.takeWhile_cons_of_pos ha]; simp [ih]
    · rw [List.takeWhile_cons_of_neg ha]; simp
theorem ldD_len (l : List UInt8) : (ldD l).length ≤ l.length := by
  have h := congrArg List.length (ldD_take l)
  rw [List.length_take] at h; omega
theorem ldD_stop : ∀ {l : List UInt8} {k : Nat}, (∀ x ∈ l.take k, isD x = true) → (∀ c, l[k]? = some c → isD c = false) → k ≤ l.length → ldD l = l.take k
  | [], k, _, _, hk => by simp [ldD]
  | a :: r, 0, _, h, _ => by
    have := h a rfl
    simp [ldD, this]
  | a :: r, k + 1, h1, h2, hk => by
    have ha : isD a = true := h1 a (by simp)
    have := ldD_stop (l := r) (k := k) (fun x hx => h1 x (by simp [hx])) (fun c hc => h2 c (by simpa using hc)) (by simpa using hk)
    unfold ldD at this ⊢
    rw [List.takeWhile_cons_of_pos ha, this]; rfl
theorem ldD_app {ds r : List UInt8} (h : AllD ds) (hr : ∀ c, r[0]? = some c → isD c = false) : ldD (ds ++ r) = ds := by
  have := ldD_stop (l := ds ++ r) (k := ds.length) (fun x hx => h x (by simpa using hx)) (fun c hc => hr c (by rw [List.getElem?_append_right (Nat.le_refl _), Nat.sub_self] at hc; exact hc)) (by simp)
  rw [this]; simp

/-- how many signs stand ahead of the digits -/
def sgAt (l : List UInt8) : Nat := if l[0]? = some 45 then 1 else 0
/-- the number of these digits, with its sign -/
def numZ (st : Nat) (ds : List UInt8) : Int := if st = 1 then -(dv ds : Int) else (dv ds : Int)
def num2 (st : Nat) (ds : List UInt8) : Int × Nat × Nat :=
  if ds = [] then (0, 0, 5) else if ds[0]? = some 48 ∧ (st = 1 ∨ 1 < ds.length) then (0, 0, 5)
  else if -9223372036854775808 ≤ numZ st ds ∧ numZ st ds < 9223372036854775808 then (numZ st ds, st + ds.length, 0) else (0, 0, 10)
/-- the number at the beginning, its length, the error -/
def numW (l : List UInt8) : Int × Nat × Nat := num2 (sgAt l) (ldD (l.drop (sgAt l)))
theorem sgAt_cases (l : List UInt8) : (sgAt l = 1 ∧ l[0]? = some 45) ∨ (sgAt l = 0 ∧ l[0]? ≠ some 45) := by
  unfold sgAt; split
  · exact .inl ⟨rfl, by assumption⟩
  · exact .inr ⟨rfl, by assumption⟩
theorem can_of {ds : List UInt8} {st : Nat} (h0 : ds ≠ []) (hd : AllD ds) (h : ¬ (ds[0]? = some 48 ∧ (st = 1 ∨ 1 < ds.length))) : Can ds :=
  ⟨h0, hd, fun e => by
    have := List.length_pos_iff.2 h0
    by_cases h1 : 1 < ds.length
    · exact absurd ⟨e, .inr h1⟩ h
    · omega⟩
theorem dz_num {ds : List UInt8} {st : Nat} (hc : Can ds) (hst : st = 0 ∨ st = 1) (h : ¬ (ds[0]? = some 48 ∧ (st = 1 ∨ 1 < ds.length))) : dz (numZ st ds) = (if st = 1 then [45] else []) ++ ds := by
  have h1 := dn_dv _ ds hc rfl
  unfold numZ
  rcases hst with rfl | rfl
  · rw [if_neg (by omega), if_neg (by omega), dz_pos (by omega), Int.natAbs_natCast, h1]; rfl
  · have h2 : ds[0]? ≠ some 48 := fun e => h ⟨e, .inl rfl⟩
    obtain ⟨j, hj⟩ : ∃ j, ds.length = j + 1 := ⟨ds.length - 1, by have := List.length_pos_iff.2 hc.1; omega⟩
    have h3 := dv_ge j ds hc h2 hj
    have := Nat.one_le_pow j 10 (by omega)
    rw [if_pos rfl, if_pos rfl, dz_neg (by omega), Int.natAbs_neg, Int.natAbs_natCast, h1]; rfl
theorem sgAt_take (l : List UInt8) : l.take (sgAt l) = if sgAt l = 1 then [45] else [] := by
  rcases sgAt_cases l with ⟨h1, h2⟩ | ⟨h1, h2⟩
  · rw [h1, if_pos rfl]
    cases l with
    | nil => simp at h2
    | cons a r => simp at h2; subst h2; rfl
  · rw [h1, if_neg (by omega)]; rfl
theorem num_take (l : List UInt8) : l.take (sgAt l + (ldD (l.drop (sgAt l))).length) = (if sgAt l = 1 then [45] else []) ++ ldD (l.drop (sgAt l)) := by
  rw [List.take_add, sgAt_take, ldD_take]
theorem num_back {l : List UInt8} {z : Int} {k : Nat} (h : numW l = (z, k, 0)) : l.take k = dz z ∧ -9223372036854775808 ≤ z ∧ z < 9223372036854775808 ∧ k ≤ l.length := by
  have hst : sgAt l = 0 ∨ sgAt l = 1 := by rcases sgAt_cases l with ⟨h1, _⟩ | ⟨h1, _⟩ <;> omega
  have hlen := ldD_len (l.drop (sgAt l))
  have hsl : sgAt l ≤ l.length := by
    rcases sgAt_cases l with ⟨h1, h2⟩ | ⟨h1, _⟩
    · rw [h1]
      cases l with
      | nil => simp at h2
      | cons a r => simp
    · omega
  rw [List.length_drop] at hlen
  have ht := num_take l
  have hd := ldD_all (l.drop (sgAt l))
  unfold numW at h
  generalize ldD (l.drop (sgAt l)) = ds at *
  unfold num2 at h
  split at h
  · simp at h
  · split at h
    · simp at h
    · split at h
      · rename_i h0 h1 h2
        simp only [Prod.mk.injEq] at h
        obtain ⟨rfl, rfl, _⟩ := h
        exact ⟨by rw [ht, dz_num (can_of h0 hd h1) hst h1], h2.1, h2.2, by omega⟩
      · simp at h
theorem num_dz {z : Int} {r : List UInt8} (h1 : -9223372036854775808 ≤ z) (h2 : z < 9223372036854775808) (hr : ∀ c, r[0]? = some c → isD c = false) : numW (dz z ++ r) = (z, (dz z).length, 0) := by
  have hc := dn_can z.natAbs
  obtain ⟨a, t, ha, ha2⟩ := dn_head z.natAbs
  by_cases hz : z < 0
  · have e1 : sgAt (dz z ++ r) = 1 := by rw [dz_neg hz]; simp [sgAt]
    have e2 : ldD ((dz z ++ r).drop 1) = dn z.natAbs := by rw [dz_neg hz]; exact ldD_app (dn_all _) hr
    unfold numW
    rw [e1, e2]
    unfold num2
    have h3 : (dn z.natAbs)[0]? ≠ some 48 := fun e => by
      have h4 := hc.2.2 e
      have h5 := dv_dn z.natAbs
      rw [ha] at e h4 h5
      simp at e h4; subst e h4
      simp [dv] at h5; omega
    have h4 : numZ 1 (dn z.natAbs) = z := by unfold numZ; rw [if_pos rfl, dv_dn]; omega
    rw [if_neg hc.1, if_neg (fun h => h3 h.1), h4, if_pos ⟨h1, h2⟩, dz_neg hz]
    simp; omega
  · have e1 : sgAt (dz z ++ r) = 0 := by
      rw [dz_pos (by omega), ha]
      unfold sgAt
      rw [if_neg]
      simp
      intro e; subst e; simp [isD] at ha2
    have e2 : ldD ((dz z ++ r).drop 0) = dn z.natAbs := by rw [dz_pos (by omega)]; exact ldD_app (dn_all _) hr
    unfold numW
    rw [e1, e2]
    unfold num2
    have h3 : ¬ ((dn z.natAbs)[0]? = some 48 ∧ (0 = 1 ∨ 1 < (dn z.natAbs).length)) := fun ⟨e, h4⟩ => by
      have := hc.2.2 e
      omega
    have h4 : numZ 0 (dn z.natAbs) = z := by unfold numZ; rw [if_neg (by omega), dv_dn]; omega
    rw [if_neg hc.1, if_neg h3, h4, if_pos ⟨h1, h2⟩, dz_pos (by omega)]
    simp
theorem num_err {l : List UInt8} {z : Int} {k e : Nat} (h : numW l = (z, k, e)) (he : e ≠ 0) : z = 0 ∧ k = 0 := by
  unfold numW num2 at h
  repeat' split at h
  all_goals
    simp only [Prod.mk.injEq] at h
    obtain ⟨rfl, rfl, rfl⟩ := h
    first | exact ⟨rfl, rfl⟩ | exact absurd rfl he
end Go.Proofs.YthmjgaekcghonaaGreatDoor

/-
  Contracts of package name on names and their order: isLetter, isNameByte, Read, Right, sign, Order; and of the document's own letter, Part, Read, Right, Order.
-/
namespace Go.Proofs.YthmjgaekcghonaaGreatDoor
open Go.RowKit

theorem retB {a b : Bool} (h : a = true ↔ b = true) : Ending.returned (Value.bool a) = .returned (.bool b) := by rw [Bool.eq_iff_iff.2 h]

set_option maxHeartbeats 400000 in
theorem isLetter_any (c : UInt8) (w : World) : Calls Tryz.prog 102 #[.int .u8 (c.toNat : Int)] w fun e w' => e = .returned (.bool (isL c)) ∧ w = w' := by
  obtain ⟨n, hn⟩ : ∃ n, n = c.toNat := ⟨_, rfl⟩
  have Hc : Hid (isL c = (decide (97 ≤ n) && decide (n ≤ 122))) := by show _ = _; rw [hn]; rfl
  rw [← hn]; clear hn
  go_enter Tryz.func102, Tryz.ntmps102
  go_wp2
  all_goals
    go_ret
    exact ⟨retB (by rw [Hc.out]; simp; omega), rfl⟩
set_option maxHeartbeats 400000 in
theorem letter_any (c : UInt8) (w : World) : Calls Tryz.prog 99 #[.int .u8 (c.toNat : Int)] w fun e w' => e = .returned (.bool (isL c)) ∧ w = w' := by
  obtain ⟨n, hn⟩ : ∃ n, n = c.toNat := ⟨_, rfl⟩
  have Hc : Hid (isL c = (decide (97 ≤ n) && decide (n ≤ 122))) := by show _ = _; rw [hn]; rfl
  rw [← hn]; clear hn
  go_enter Tryz.func99, Tryz.ntmps99
  go_wp2
  all_goals
    go_ret
    exact ⟨retB (by rw [Hc.out]; simp; omega), rfl⟩

set_option maxHeartbeats 800000 in
theorem isNameByte_any (c : UInt8) (w : World) : Calls Tryz.prog 103 #[.int .u8 (c.toNat : Int)] w fun e w' => e = .returned (.bool (isN c)) ∧ w = w' := by
  have hl := isLetter_any c w
  obtain ⟨n, hn⟩ : ∃ n, n = c.toNat := ⟨_, rfl⟩
  have Hc : Hid (isN c = (isL c || (decide (48 ≤ n) && decide (n ≤ 57)) || decide (n = 95))) := by show _ = _; rw [hn]; rfl
  rw [← hn] at hl ⊢; clear hn
  cases hL : isL c
  all_goals
    rw [hL] at hl
    rw [hL] at Hc
    have Hl := Lib.hid hl; clear hl
    go_enter Tryz.func103, Tryz.ntmps103
    go_wp2_with (go_at_call 102; refine Hl.out.mono ?_; rintro e w1 ⟨rfl, rfl⟩)
    all_goals
      go_ret
      exact ⟨retB (by rw [Hc.out]; simp; try omega), rfl⟩
set_option maxHeartbeats 800000 in
theorem Part_any (c : UInt8) (w : World) : Calls Tryz.prog 98 #[.int .u8 (c.toNat : Int)] w fun e w' => e = .returned (.bool (isN c)) ∧ w = w' := by
  have hl := letter_any c w
  obtain ⟨n, hn⟩ : ∃ n, n = c.toNat := ⟨_, rfl⟩
  have Hc : Hid (isN c = (isL c || (decide (48 ≤ n) && decide (n ≤ 57)) || decide (n = 95))) := by show _ = _; rw [hn]; rfl
  rw [← hn] at hl ⊢; clear hn
  cases hL : isL c
  all_goals
    rw [hL] at hl
    rw [hL] at Hc
    have Hl := Lib.hid hl; clear hl
    go_enter Tryz.func98, Tryz.ntmps98
    go_wp2_with (go_at_call 99; refine Hl.out.mono ?_; rintro e w1 ⟨rfl, rfl⟩)
    all_goals
      go_ret
      exact ⟨retB (by rw [Hc.out]; simp; try omega), rfl⟩

/-- all bytes ahead of place k may stand in a name -/
def AllN (l : List UInt8) (k : Nat) : Prop := ∀ x ∈ l.take k, isN x = true
theorem AllN.more {l : List UInt8} {k : Nat} {c : UInt8} (h : AllN l k) (hk : l[k]? = some c) (hc : isN c = true) : AllN l (k + 1) := by
  intro x hx
  rw [take_at hk] at hx
  rcases List.mem_append.1 hx with hx | hx
  · exact h x hx
  · simp at hx; subst hx; exact hc

set_option maxRecDepth 100000 in
set_option maxHeartbeats 800000 in
theorem nread_any (s : ByteArray) (w : World) (hs : s.size ≤ 1000000) : Calls Tryz.prog 79 #[.string s] w fun e w' => e = .returned (.int .i64 (rdN (bs s) : Nat)) ∧ w = w' := by
  by_cases h0 : s.size = 0
  · obtain rfl := is_empty s h0
    go_enter Tryz.func79, Tryz.ntmps79
    go_wp2_with fail
    go_ret
    exact ⟨rfl, rfl⟩
  · have hne := ne_empty s (by omega)
    have h0' : 0 < s.size := by omega
    have HR := Lib.hid (rdN_cons (bs_at s 0 h0'))
    cases hL : isL s[0]
    · rw [hL] at HR
      have hl := isLetter_any s[0] w
      rw [hL] at hl
      have Hl := Lib.hid hl; clear hl
      go_enter Tryz.func79, Tryz.ntmps79
      go_wp2_with (go_at_call 102; refine Hl.out.mono ?_; rintro e w1 ⟨rfl, rfl⟩)
      go_ret
      exact ⟨by rw [HR.out]; rfl, rfl⟩
    · rw [hL] at HR
      have hl := isLetter_any s[0] w
      rw [hL] at hl
      have Hl := Lib.hid hl; clear hl
      go_enter Tryz.func79, Tryz.ntmps79
      go_wp2_with (go_at_call 102; refine Hl.out.mono ?_; rintro e w1 ⟨rfl, rfl⟩)
      go_loop [14] (fun i => ∃ k : Nat, k ≤ s.size ∧ i = .int .i64 k ∧ Hid (AllN (bs s) k)) (fun i => s.size - (intOf i).toNat)
      case atStart => exact ⟨0, by omega, rfl, fun x hx => by cases hx⟩
      case round =>
        obtain ⟨k, hk, rfl, hall⟩ := hrel
        by_cases hlt : k < s.size
        · have Hat := Lib.hid (bs_at s k hlt)
          have hn := isNameByte_any s[k] w
          cases hN : isN s[k]
          · rw [hN] at hn
            have Hn := Lib.hid hn; clear hn
            have Hv : Hid (rdN (bs s) = k) := by
              show _ = _
              rw [HR.out]; exact runN_eq hall.out Hat.out hN
            go_wp2_with (go_at_call 103; refine Hn.out.mono ?_; rintro e w1 ⟨rfl, rfl⟩)
            go_ret
            exact ⟨by rw [Hv.out]; rfl, rfl⟩
          · rw [hN] at hn
            have Hn := Lib.hid hn; clear hn
            have Hm := Lib.hid (hall.out.more Hat.out hN)
            go_wp2_with (go_at_call 103; refine Hn.out.mono ?_; rintro e w1 ⟨rfl, rfl⟩)
            go_round
            case rel => exact ⟨k + 1, by omega, by go_num, Hm.out⟩
            case measure => simp [intOf]; omega
        · have Hv : Hid (rdN (bs s) = s.size) := by
            show _ = _
            rw [HR.out, ← bs_length]
            refine runN_all fun x hx => hall.out x ?_
            rw [List.take_of_length_le (by rw [bs_length]; omega)]; exact hx
          go_wp2
          go_ret
          exact ⟨by rw [Hv.out]; rfl, rfl⟩

set_option maxRecDepth 100000 in
set_option maxHeartbeats 800000 in
theorem nrread_any (s : ByteArray) (w : World) (hs : s.size ≤ 1000000) : Calls Tryz.prog 75 #[.string s] w fun e w' => e = .returned (.int .i64 (rdN (bs s) : Nat)) ∧ w = w' := by
  go_enter Tryz.func75, Tryz.ntmps75
  go_wp2_with fail
  go_loop [3] (fun i => ∃ k : Nat, k ≤ s.size ∧ i = .int .i64 k ∧ Hid (AllN (bs s) k) ∧ Hid (0 < k → ∃ c, (bs s)[0]? = some c ∧ isL c = true)) (fun i => s.size - (intOf i).toNat)
  case atStart => exact ⟨0, by omega, rfl, fun x hx => (by cases hx), fun h => absurd h (by omega)⟩
  case round =>
    obtain ⟨k, hk, rfl, hall, hfirst⟩ := hrel
    by_cases hlt : k < s.size
    · have Hat := Lib.hid (bs_at s k hlt)
      have h0' : 0 < s.size := by omega
      have HR := Lib.hid (rdN_cons (bs_at s 0 h0'))
      have HN := fun w => Part_any s[k] w
      have HL := fun w => letter_any s[0] w
      cases hN : isN s[k]
      · have Hv : Hid (rdN (bs s) = k) := by
          show _ = _
          by_cases hk0 : k = 0
          · subst hk0
            rw [HR.out]
            have : isL s[0] = false := by
              cases hL : isL s[0]
              · rfl
              · rw [isN_of_isL hL] at hN; cases hN
            rw [this]; rfl
          · obtain ⟨c, h1, h2⟩ := hfirst.out (by omega)
            rw [rdN_cons h1, h2]; exact runN_eq hall.out Hat.out hN
        have HN' := HN w; rw [hN] at HN'
        have Hn := Lib.hid HN'; clear HN' HN HL
        go_wp2_with (go_at_call 98; refine Hn.out.mono ?_; rintro e w1 ⟨rfl, rfl⟩)
        go_ret
        exact ⟨by rw [Hv.out]; rfl, rfl⟩
      · have HN' := HN w; rw [hN] at HN'
        have Hn := Lib.hid HN'; clear HN' HN
        have Hm := Lib.hid (hall.out.more Hat.out hN)
        by_cases hk0 : k = 0
        · subst hk0
          have HL' := HL w
          cases hL : isL s[0]
          · rw [hL] at HL'
            have Hl := Lib.hid HL'; clear HL' HL
            have Hv : Hid (rdN (bs s) = 0) := by show _ = _; rw [HR.out, hL]; rfl
            go_wp2_with (first | (go_at_call 98; refine Hn.out.mono ?_; rintro e w1 ⟨rfl, rfl⟩) | (go_at_call 99; refine Hl.out.mono ?_; rintro e w1 ⟨rfl, rfl⟩))
            go_ret
            exact ⟨by rw [Hv.out]; rfl, rfl⟩
          · rw [hL] at HL'
            have Hl := Lib.hid HL'; clear HL' HL
            have HF : Hid (∃ c, (bs s)[0]? = some c ∧ isL c = true) := ⟨_, Hat.out, hL⟩
            go_wp2_with (first | (go_at_call 98; refine Hn.out.mono ?_; rintro e w1 ⟨rfl, rfl⟩) | (go_at_call 99; refine Hl.out.mono ?_; rintro e w1 ⟨rfl, rfl⟩))
            go_round
            case rel => exact ⟨1, by omega, by go_num, Hm.out, fun _ => HF.out⟩
            case measure => simp [intOf]; omega
        · have d1 : decide ((0 : Int) < (k : Int)) = true := by simp; omega
          clear HL
          go_wp2_with (go_at_call 98; refine Hn.out.mono ?_; rintro e w1 ⟨rfl, rfl⟩)
          go_round
          case rel => exact ⟨k + 1, by omega, by go_num, Hm.out, fun _ => hfirst.out (by omega)⟩
          case measure => simp [intOf]; omega
    · have Hv : Hid (rdN (bs s) = k) := by
        show _ = _
        have hk2 : k = (bs s).length := by rw [bs_length]; omega
        by_cases hk0 : k = 0
        · have : bs s = [] := List.eq_nil_of_length_eq_zero (by omega)
          rw [this, hk0]; rfl
        · obtain ⟨c, h1, h2⟩ := hfirst.out (by omega)
          rw [rdN_cons h1, h2, hk2]
          refine runN_all fun x hx => hall.out x ?_
          rw [List.take_of_length_le (by omega)]; exact hx
      go_wp2
      go_ret
      exact ⟨by rw [Hv.out]; rfl, rfl⟩

theorem rightN_of {l : List UInt8} (h0 : 0 < l.length) (h1 : l.length ≤ 16) : rightN l = decide (rdN l = l.length) := by simp [rightN, h0, h1]
theorem rightN_long {l : List UInt8} (h1 : 16 < l.length) : rightN l = false := by
  have : decide (l.length ≤ 16) = false := by simp; omega
  simp [rightN, this]
set_option maxRecDepth 100000 in
set_option maxHeartbeats 800000 in
theorem nright_any (s : ByteArray) (w : World) (hs : s.size ≤ 1000000) : Calls Tryz.prog 58 #[.string s] w fun e w' => e = .returned (.bool (rightN (bs s))) ∧ w = w' := by
  by_cases h0 : s.size = 0
  · obtain rfl := is_empty s h0
    go_enter Tryz.func58, Tryz.ntmps58
    go_wp2_with fail
    go_ret
    exact ⟨rfl, rfl⟩
  · have hne := ne_empty s (by omega)
    by_cases h1 : s.size ≤ 16
    · have HR := Lib.hid (rightN_of (l := bs s) (by rw [bs_length]; omega) (by rw [bs_length]; omega))
      rw [bs_length] at HR
      have HC := Lib.hid (nread_any s w hs)
      have d1 : decide ((s.size : Int) ≤ 16) = true := by simp; omega
      generalize hn : rdN (bs s) = n at HC HR
      clear hn
      go_enter Tryz.func58, Tryz.ntmps58
      go_wp2_with (go_at_call 79; refine HC.out.mono ?_; rintro e w1 ⟨rfl, rfl⟩)
      go_ret
      exact ⟨retB (by rw [HR.out]; simp; try omega), rfl⟩
    · have HR := Lib.hid (rightN_long (l := bs s) (by rw [bs_length]; omega))
      have d1 : decide ((s.size : Int) ≤ 16) = false := by simp; omega
      go_enter Tryz.func58, Tryz.ntmps58
      go_wp2_with fail
      go_ret
      exact ⟨by rw [HR.out]; rfl, rfl⟩
set_option maxRecDepth 100000 in
set_option maxHeartbeats 800000 in
theorem nrright_any (s : ByteArray) (w : World) (hs : s.size ≤ 1000000) : Calls Tryz.prog 46 #[.string s] w fun e w' => e = .returned (.bool (rightN (bs s))) ∧ w = w' := by
  by_cases h0 : s.size = 0
  · obtain rfl := is_empty s h0
    go_enter Tryz.func46, Tryz.ntmps46
    go_wp2_with fail
    go_ret
    exact ⟨rfl, rfl⟩
  · have d0 : decide (0 < (s.size : Int)) = true := by simp; omega
    by_cases h1 : s.size ≤ 16
    · have HR := Lib.hid (rightN_of (l := bs s) (by rw [bs_length]; omega) (by rw [bs_length]; omega))
      rw [bs_length] at HR
      have HC := Lib.hid (nrread_any s w hs)
      have d1 : decide ((s.size : Int) ≤ 16) = true := by simp; omega
      generalize hn : rdN (bs s) = n at HC HR
      clear hn
      go_enter Tryz.func46, Tryz.ntmps46
      go_wp2_with (go_at_call 75; refine HC.out.mono ?_; rintro e w1 ⟨rfl, rfl⟩)
      go_ret
      exact ⟨retB (by rw [HR.out]; simp; try omega), rfl⟩
    · have HR := Lib.hid (rightN_long (l := bs s) (by rw [bs_length]; omega))
      have d1 : decide ((s.size : Int) ≤ 16) = false := by simp; omega
      go_enter Tryz.func46, Tryz.ntmps46
      go_wp2_with fail
      go_ret
      exact ⟨by rw [HR.out]; rfl, rfl⟩

end Go.Proofs.YthmjgaekcghonaaGreatDoor

/-
  Contracts of package value: Int, Long, Text, Bytes, Right, and of the document's own Right.
-/
namespace Go.Proofs.YthmjgaekcghonaaGreatDoor
open Go.RowKit

/-- a block of three cells that may be written -/
def Blk3 (w : World) (b : Nat) (x y z : Value) : Prop := w.cell? ⟨b, 0, none⟩ = some x ∧ w.cell? ⟨b, 1, none⟩ = some y ∧ w.cell? ⟨b, 2, none⟩ = some z ∧
  w.frozen? ⟨b, 0, none⟩ = false ∧ w.frozen? ⟨b, 1, none⟩ = false ∧ w.frozen? ⟨b, 2, none⟩ = false
theorem Blk3.new (w : World) (x y z : Value) (t : TypeId) : Blk3 (w.alloc (.cells #[x, y, z] t)) w.heap.size x y z := by
  refine ⟨?_, ?_, ?_, ?_, ?_, ?_⟩ <;> simp
theorem Blk3.below {w w1 : World} {b B : Nat} {x y z : Value} (h : Blk3 w b x y z) (hb : Below B w w1) (hB : b < B) : Blk3 w1 b x y z := by
  obtain ⟨c0, c1, c2, f0, f1, f2⟩ := h
  exact ⟨(hb.cell hB).trans c0, (hb.cell hB).trans c1, (hb.cell hB).trans c2, (hb.frozen hB).trans f0, (hb.frozen hB).trans f1, (hb.frozen hB).trans f2⟩
theorem Blk3.set3 {w : World} {b : Nat} {x y z x' y' z' : Value} (h : Blk3 w b x y z) : Blk3 (((w.setCell ⟨b, 0, none⟩ x').setCell ⟨b, 1, none⟩ y').setCell ⟨b, 2, none⟩ z') b x' y' z' := by
  obtain ⟨c0, c1, c2, f0, f1, f2⟩ := h
  have n01 : (⟨b, 0, none⟩ : Addr) ≠ ⟨b, 1, none⟩ := by simp
  have n02 : (⟨b, 0, none⟩ : Addr) ≠ ⟨b, 2, none⟩ := by simp
  have n12 : (⟨b, 1, none⟩ : Addr) ≠ ⟨b, 2, none⟩ := by simp
  refine ⟨?_, ?_, ?_, ?_, ?_, ?_⟩
  · rw [World.cell?_setCell_other _ _ _ _ n02.symm, World.cell?_setCell_other _ _ _ _ n01.symm, World.cell?_setCell_same _ _ _ c0]
  · rw [World.cell?_setCell_other _ _ _ _ n12.symm, World.cell?_setCell_same _ _ _ (by rw [World.cell?_setCell_other _ _ _ _ n01]; exact c1)]
  · rw [World.cell?_setCell_same _ _ _ (by rw [World.cell?_setCell_other _ _ _ _ n12, World.cell?_setCell_other _ _ _ _ n02]; exact c2)]
  all_goals simpa only [World.frozen?_setCell]
theorem results_v1 {fn : Func} {p : Tmp} (h : fn.results = #[.cell p 28]) (tmps : Array Value) (w : World) {b : Nat} {x y z : Value} (hp : tmps.getD p undef = .pointer (some ⟨b, 0, none⟩)) (hb : Blk3 w b x y z) :
    (results fn tmps).run Tryz.prog w = .ok (.agg #[x, y, z]) w := by
  obtain ⟨c0, c1, c2, _⟩ := hb
  have hp' : tmps[p]?.getD undef = .pointer (some ⟨b, 0, none⟩) := by simpa using hp
  simp [results, h, go_sem, hp', c0, c1, c2]
theorem results_v2 {fn : Func} {p u : Tmp} (h : fn.results = #[.cell p 28, .tmp u]) (tmps : Array Value) (w : World) {b : Nat} {x y z : Value} (hp : tmps.getD p undef = .pointer (some ⟨b, 0, none⟩)) (hb : Blk3 w b x y z) :
    (results fn tmps).run Tryz.prog w = .ok (.tuple #[.agg #[x, y, z], tmps.getD u undef]) w := by
  obtain ⟨c0, c1, c2, _⟩ := hb
  have hp' : tmps[p]?.getD undef = .pointer (some ⟨b, 0, none⟩) := by simpa using hp
  simp [results, h, go_sem, hp', c0, c1, c2]
theorem results_v3 {fn : Func} {p u v : Tmp} (h : fn.results = #[.cell p 28, .tmp u, .tmp v]) (tmps : Array Value) (w : World) {b : Nat} {x y z : Value} (hp : tmps.getD p undef = .pointer (some ⟨b, 0, none⟩)) (hb : Blk3 w b x y z) :
    (results fn tmps).run Tryz.prog w = .ok (.tuple #[.agg #[x, y, z], tmps.getD u undef, tmps.getD v undef]) w := by
  obtain ⟨c0, c1, c2, _⟩ := hb
  have hp' : tmps[p]?.getD undef = .pointer (some ⟨b, 0, none⟩) := by simpa using hp
  simp [results, h, go_sem, hp', c0, c1, c2]
theorem below_new {w w1 : World} {o : Obj} (hb : Below (w.alloc o).heap.size (w.alloc o) w1) : Below w.heap.size w w1 :=
  ((Below.refl _ _).alloc (Nat.le_refl _) o).trans (hb.mono (by simp))
/-- a value as the program has it -/
abbrev VV (k n : Int) (s : ByteArray) : Value := .agg #[.int .i64 k, .int .i64 n, .string s]
def vnone : Value := VV 0 0 ⟨#[]⟩
/-- is it a valid value? -/
def rightV (k n : Int) (l : List UInt8) : Bool :=
  if k = 0 then decide (n = 0) && decide (l = []) else if k = 1 then fitsB n 32 && decide (l = []) else if k = 2 then decide (l = [])
  else if k = 3 then decide (n = 0) && decide (l.length ≤ 120) && (sg l).isSome else if k = 4 then decide (n = 0) && decide (l.length ≤ 120) else false

theorem fits32 (n : Int) (w : World) : Calls Tryz.prog 121 #[.int .i64 n, .int .i64 32] w fun e w' => e = .returned (.bool (fitsB n 32)) ∧ w = w' := fits_any n 32 w (by omega) (by omega)
theorem rfits32 (n : Int) (w : World) (h3 : -9223372036854775808 ≤ n) (h4 : n < 9223372036854775808) : Calls Tryz.prog 100 #[.int .i64 n, .int .i64 32] w fun e w' => e = .returned (.bool (fitsB n 32)) ∧ w = w' := rfits_any n 32 w (by omega) (by omega) h3 h4
/-- what Int returns -/
def inE (n : Int) : Nat := if fitsB n 32 then 0 else 10
def inV (n : Int) : Value := .tuple #[if inE n = 0 then VV 1 n ⟨#[]⟩ else VV 0 0 ⟨#[]⟩, .int .i64 (inE n : Nat)]
/-- why a text is none, or 0 -/
def txE (l : List UInt8) : Nat := if 120 < l.length then 3 else if (sg l).isSome = true then 0 else 5
def byE (l : List UInt8) : Nat := if 120 < l.length then 3 else 0
set_option maxHeartbeats 400000 in
theorem checkBytes_any (s : ByteArray) (w : World) : Calls Tryz.prog 123 #[.string s] w fun e w' => e = .returned (.int .i64 (byE (bs s) : Nat)) ∧ w = w' := by
  have Hv : Hid (byE (bs s) = if 120 < s.size then 3 else 0) := by show _ = _; unfold byE; rw [bs_length]
  by_cases h : 120 < s.size
  · have d : decide (120 < (s.size : Int)) = true := by simp; omega
    rw [if_pos h] at Hv
    go_enter Tryz.func123, Tryz.ntmps123
    go_wp2_with fail
    go_ret
    exact ⟨by rw [Hv.out]; rfl, rfl⟩
  · have d : decide (120 < (s.size : Int)) = false := by simp; omega
    rw [if_neg h] at Hv
    go_enter Tryz.func123, Tryz.ntmps123
    go_wp2_with fail
    go_ret
    exact ⟨by rw [Hv.out]; rfl, rfl⟩
set_option maxHeartbeats 400000 in
theorem checkText_any (s : ByteArray) (w : World) (ht : UTab w) : Calls Tryz.prog 122 #[.string s] w fun e w' => e = .returned (.int .i64 (txE (bs s) : Nat)) ∧ Below w.heap.size w w' := by
  have Hv : Hid (txE (bs s) = if 120 < s.size then 3 else if (sg (bs s)).isSome = true then 0 else 5) := by show _ = _; unfold txE; rw [bs_length]
  by_cases h : 120 < s.size
  · have d : decide (120 < (s.size : Int)) = true := by simp; omega
    rw [if_pos h] at Hv
    go_enter Tryz.func122, Tryz.ntmps122
    go_wp2_with fail
    go_ret
    exact ⟨by rw [Hv.out]; rfl, Below.refl _ _⟩
  · have d : decide (120 < (s.size : Int)) = false := by simp; omega
    rw [if_neg h] at Hv
    have HR := Lib.hid (right_any s w ht (by omega))
    generalize (sg (bs s)).isSome = b at HR Hv
    cases b
    all_goals
      go_enter Tryz.func122, Tryz.ntmps122
      go_wp2_with fail
      refine HR.out.mono ?_
      rintro e w1 ⟨rfl, hb1⟩
      go_wp2_with fail
      go_ret
      exact ⟨by rw [Hv.out]; rfl, hb1⟩

/-- what Text and Bytes return -/
def txV (s : ByteArray) : Value := .tuple #[if txE (bs s) = 0 then VV 3 0 s else VV 0 0 ⟨#[]⟩, .int .i64 (txE (bs s) : Nat)]
def byV (s : ByteArray) : Value := .tuple #[if byE (bs s) = 0 then VV 4 0 s else VV 0 0 ⟨#[]⟩, .int .i64 (byE (bs s) : Nat)]
theorem byE_cases (l : List UInt8) : byE l = 0 ∨ byE l = 3 := by unfold byE; split <;> simp
theorem txE_cases (l : List UInt8) : txE l = 0 ∨ txE l = 3 ∨ txE l = 5 := by
  unfold txE
  repeat' split
  all_goals simp
theorem wf64 {n : Int} (h : (Lit.int .i64 n).wf = true) : -9223372036854775808 ≤ n ∧ n < 9223372036854775808 := by
  have h2 : IntKind.i64.min ≤ n ∧ n ≤ 9223372036854775807 := by simpa [Lit.wf] using h
  have h3 : (-9223372036854775808 : Int) = IntKind.i64.min := by decide
  omega
end Go.Proofs.YthmjgaekcghonaaGreatDoor

/-
  A region that draws its order, whose own operations only read no memory that a callee makes and whose callees may make memory: walked once, in the order of the text.
-/
namespace Go.Proofs.YthmjgaekcghonaaGreatDoor
open Go.RowKit

/-- a world in which all that lay below B in w lies as it was -/
def BelowBy (B : Nat) (w : World) : Type := { x : World // Below B w x }
def BelowBy.x {B : Nat} {w : World} (p : BelowBy B w) : World := p.1
theorem BelowBy.h {B : Nat} {w : World} (p : BelowBy B w) : Below B w p.x := p.2
theorem BelowBy.step {B : Nat} {w w' : World} (p : BelowBy B w) (hB : B ≤ w.heap.size) (h : Below p.x.heap.size p.x w') : ∃ q : BelowBy B w, w' = q.x :=
  ⟨⟨w', p.h.trans (h.mono (Nat.le_trans hB p.h.size))⟩, rfl⟩
theorem wp_region_below {P : Program} {id : Nat} {Q : Exit → Act → World → Prop} {a : Act} {w : World} {l : List Oper} (B : Nat) (hm : P.follows .mixedOrders = true) (hB : Region.lexB .any l.toArray = true)
    (h : wpQuiet P l.toArray (fun w' => ∃ p : BelowBy B w, w' = p.x) (fun a' => ∀ w', (∃ p : BelowBy B w, w' = p.x) → Q .normal a' w') l a) : (Code.region id l.toArray true).wp P Q a w :=
  wp_region_quiet (C := fun w' => ∃ p : BelowBy B w, w' = p.x) hm hB ⟨⟨_, (Below.refl B w).drew⟩, rfl⟩ (by simpa using h)
end Go.Proofs.YthmjgaekcghonaaGreatDoor

/-
  Contracts of package typ: the small functions, Right and room; and of the document's own Right.
-/
namespace Go.Proofs.YthmjgaekcghonaaGreatDoor
open Go.RowKit

/-- a block of two cells that may be written -/
def Blk2 (w : World) (b : Nat) (x y : Value) : Prop := w.cell? ⟨b, 0, none⟩ = some x ∧ w.cell? ⟨b, 1, none⟩ = some y ∧ w.frozen? ⟨b, 0, none⟩ = false ∧ w.frozen? ⟨b, 1, none⟩ = false
theorem Blk2.new (w : World) (b : Nat) (x y : Value) (t : TypeId) (h : b = w.heap.size) : Blk2 (w.alloc (.cells #[x, y] t)) b x y := by
  subst h
  refine ⟨?_, ?_, ?_, ?_⟩ <;> simp
theorem Blk2.below {w w1 : World} {b B : Nat} {x y : Value} (h : Blk2 w b x y) (hb : Below B w w1) (hB : b < B) : Blk2 w1 b x y := by
  obtain ⟨c0, c1, f0, f1⟩ := h
  exact ⟨(hb.cell hB).trans c0, (hb.cell hB).trans c1, (hb.frozen hB).trans f0, (hb.frozen hB).trans f1⟩
theorem Blk2.alloc {w : World} {b : Nat} {x y : Value} (h : Blk2 w b x y) (hb : b < w.heap.size) (o : Obj) : Blk2 (w.alloc o) b x y := h.below ((Below.refl w.heap.size w).alloc (Nat.le_refl _) o) hb
theorem Blk2.set2 {w : World} {b : Nat} {x y x' y' : Value} (h : Blk2 w b x y) : Blk2 ((w.setCell ⟨b, 0, none⟩ x').setCell ⟨b, 1, none⟩ y') b x' y' := by
  obtain ⟨c0, c1, f0, f1⟩ := h
  have n01 : (⟨b, 0, none⟩ : Addr) ≠ ⟨b, 1, none⟩ := by simp
  refine ⟨?_, ?_, ?_, ?_⟩
  · rw [World.cell?_setCell_other _ _ _ _ n01.symm, World.cell?_setCell_same _ _ _ c0]
  · rw [World.cell?_setCell_same _ _ _ (by rw [World.cell?_setCell_other _ _ _ _ n01]; exact c1)]
  all_goals simpa only [World.frozen?_setCell]
theorem Blk3.new' (w : World) (b : Nat) (x y z : Value) (t : TypeId) (h : b = w.heap.size) : Blk3 (w.alloc (.cells #[x, y, z] t)) b x y z := by
  subst h; exact Blk3.new w x y z t
theorem results_t2 {fn : Func} {p u : Tmp} (h : fn.results = #[.cell p 26, .tmp u]) (tmps : Array Value) (w : World) {b : Nat} {x y : Value} (hp : tmps.getD p undef = .pointer (some ⟨b, 0, none⟩)) (hb : Blk2 w b x y) :
    (results fn tmps).run Tryz.prog w = .ok (.tuple #[.agg #[x, y], tmps.getD u undef]) w := by
  obtain ⟨c0, c1, _⟩ := hb
  have hp' : tmps[p]?.getD undef = .pointer (some ⟨b, 0, none⟩) := by simpa using hp
  simp [results, h, go_sem, hp', c0, c1]
theorem results_t3 {fn : Func} {p u v : Tmp} (h : fn.results = #[.cell p 26, .tmp u, .tmp v]) (tmps : Array Value) (w : World) {b : Nat} {x y : Value} (hp : tmps.getD p undef = .pointer (some ⟨b, 0, none⟩)) (hb : Blk2 w b x y) :
    (results fn tmps).run Tryz.prog w = .ok (.tuple #[.agg #[x, y], tmps.getD u undef, tmps.getD v undef]) w := by
  obtain ⟨c0, c1, _⟩ := hb
  have hp' : tmps[p]?.getD undef = .pointer (some ⟨b, 0, none⟩) := by simpa using hp
  simp [results, h, go_sem, hp', c0, c1]

/-- a type as the program has it -/
abbrev TT (k m : Int) : Value := .agg #[.int .i64 k, .int .i64 m]
def numK (k : Int) : Bool := (k == 1) || (k == 2)
def strK (k : Int) : Bool := (k == 3) || (k == 4)
def maxK (m : Int) : Bool := decide (1 ≤ m) && decide (m ≤ 120)
/-- is it a valid type? -/
def rightT (k m : Int) : Bool := bif numK k then (m == 0) else (strK k && maxK m)
/-- how many bytes a value of the type needs -/
def roomT (k m : Int) : Int := if k = 1 then 11 else if k = 2 then 20 else m

set_option maxHeartbeats 400000 in
theorem isnum_any (k : Int) (w : World) : Calls Tryz.prog 111 #[.int .i64 k] w fun e w' => e = .returned (.bool (numK k)) ∧ w = w' := by
  have Hv : Hid (numK k = ((k == 1) || (k == 2))) := rfl
  generalize h1 : (k == 1) = b1 at Hv
  generalize h2 : (k == 2) = b2 at Hv
  cases b1 <;> cases b2
  all_goals
    go_enter Tryz.func111, Tryz.ntmps111
    go_wp2_with fail
    go_ret
    exact ⟨by rw [Hv.out]; rfl, rfl⟩
set_option maxHeartbeats 400000 in
theorem isstr_any (k : Int) (w : World) : Calls Tryz.prog 112 #[.int .i64 k] w fun e w' => e = .returned (.bool (strK k)) ∧ w = w' := by
  have Hv : Hid (strK k = ((k == 3) || (k == 4))) := rfl
  generalize h1 : (k == 3) = b1 at Hv
  generalize h2 : (k == 4) = b2 at Hv
  cases b1 <;> cases b2
  all_goals
    go_enter Tryz.func112, Tryz.ntmps112
    go_wp2_with fail
    go_ret
    exact ⟨by rw [Hv.out]; rfl, rfl⟩
set_option maxHeartbeats 400000 in
theorem rmax_any (m : Int) (w : World) : Calls Tryz.prog 113 #[.int .i64 m] w fun e w' => e = .returned (.bool (maxK m)) ∧ w = w' := by
  have Hv : Hid (maxK m = (decide (1 ≤ m) && decide (m ≤ 120))) := rfl
  generalize h1 : decide (1 ≤ m) = b1 at Hv
  generalize h2 : decide (m ≤ 120) = b2 at Hv
  cases b1 <;> cases b2
  all_goals
    go_enter Tryz.func113, Tryz.ntmps113
    go_wp2_with fail
    go_ret
    exact ⟨by rw [Hv.out]; rfl, rfl⟩
theorem reach_any (k k2 : Int) (w : World) : Calls Tryz.prog 114 #[.int .i64 k, .int .i64 k2] w fun e w' => e = .returned (.bool (decide (k2 ≤ k))) ∧ w = w' := by
  go_enter Tryz.func114, Tryz.ntmps114
  go_wp2_with fail
  go_ret
  exact ⟨rfl, rfl⟩
theorem roomT_cases (k m : Int) : (k = 1 ∧ roomT k m = 11) ∨ (k = 2 ∧ roomT k m = 20) ∨ ((k == 1) = false ∧ (k == 2) = false ∧ roomT k m = m) := by
  unfold roomT
  by_cases h1 : k = 1
  · exact .inl ⟨h1, if_pos h1⟩
  · by_cases h2 : k = 2
    · exact .inr (.inl ⟨h2, by rw [if_neg h1, if_pos h2]⟩)
    · exact .inr (.inr ⟨by simpa using h1, by simpa using h2, by rw [if_neg h1, if_neg h2]⟩)
set_option maxHeartbeats 400000 in
theorem room_any (k m : Int) (w : World) : Calls Tryz.prog 115 #[TT k m] w fun e w' => e = .returned (.int .i64 (roomT k m)) ∧ Below w.heap.size w w' := by
  rcases roomT_cases k m with ⟨rfl, hv⟩ | ⟨rfl, hv⟩ | ⟨h1, h2, hv⟩
  all_goals
    have Hv := Lib.hid hv; clear hv
    go_enter Tryz.func115, Tryz.ntmps115
    go_wp2_with fail
    go_ret
    exact ⟨by rw [Hv.out]; rfl, by go_grown⟩
set_option maxHeartbeats 800000 in
theorem tright_any (k m : Int) (w : World) : Calls Tryz.prog 91 #[TT k m] w fun e w' => e = .returned (.bool (rightT k m)) ∧ Below w.heap.size w w' := by
  have HN := Lib.hid (fun w => isnum_any k w)
  have HS := Lib.hid (fun w => isstr_any k w)
  have HM := Lib.hid (fun w => rmax_any m w)
  have Hv : Hid (rightT k m = bif numK k then (m == 0) else (strK k && maxK m)) := rfl
  generalize numK k = a at HN Hv
  generalize strK k = b at HS Hv
  generalize maxK m = c at HM Hv
  generalize hz : (m == 0) = z at Hv
  cases a
  · cases b
    · go_enter Tryz.func91, Tryz.ntmps91
      go_wp2_with fail
      refine (HN.out _).mono ?_
      rintro e w1 ⟨rfl, rfl⟩
      go_wp2_with fail
      refine (HS.out _).mono ?_
      rintro e w1 ⟨rfl, rfl⟩
      go_wp2_with fail
      go_ret
      exact ⟨by rw [Hv.out]; rfl, by go_grown⟩
    · go_enter Tryz.func91, Tryz.ntmps91
      go_wp2_with fail
      refine (HN.out _).mono ?_
      rintro e w1 ⟨rfl, rfl⟩
      go_wp2_with fail
      refine (HS.out _).mono ?_
      rintro e w1 ⟨rfl, rfl⟩
      go_wp2_with fail
      refine (HM.out _).mono ?_
      rintro e w1 ⟨rfl, rfl⟩
      go_wp2_with fail
      go_ret
      exact ⟨by rw [Hv.out]; rfl, by go_grown⟩
  · go_enter Tryz.func91, Tryz.ntmps91
    go_wp2_with fail
    refine (HN.out _).mono ?_
    rintro e w1 ⟨rfl, rfl⟩
    go_wp2_with fail
    go_ret
    exact ⟨by rw [Hv.out]; rfl, by go_grown⟩
set_option maxHeartbeats 1600000 in
theorem trright_any (k m : Int) (w : World) : Calls Tryz.prog 48 #[TT k m] w fun e w' => e = .returned (.bool (rightT k m)) ∧ Below w.heap.size w w' := by
  have Hv : Hid (rightT k m = bif ((k == 1) || (k == 2)) then (m == 0) else (((k == 3) || (k == 4)) && (decide (1 ≤ m) && decide (m ≤ 120)))) := rfl
  generalize hz : (m == 0) = z at Hv
  generalize h1 : (k == 1) = b1 at Hv
  generalize h2 : (k == 2) = b2 at Hv
  generalize h3 : (k == 3) = b3 at Hv
  generalize h4 : (k == 4) = b4 at Hv
  generalize h5 : decide (1 ≤ m) = b5 at Hv
  generalize h6 : decide (m ≤ 120) = b6 at Hv
  cases b1
  · cases b2
    · cases b3 <;> cases b4 <;> cases b5
      all_goals
        go_enter Tryz.func48, Tryz.ntmps48
        go_wp2_with fail
        go_ret
        exact ⟨by rw [Hv.out]; rfl, by go_grown⟩
    · go_enter Tryz.func48, Tryz.ntmps48
      go_wp2_with fail
      go_ret
      exact ⟨by rw [Hv.out]; rfl, by go_grown⟩
  · go_enter Tryz.func48, Tryz.ntmps48
    go_wp2_with fail
    go_ret
    exact ⟨by rw [Hv.out]; rfl, by go_grown⟩
end Go.Proofs.YthmjgaekcghonaaGreatDoor

/-
  Contracts of package typ's Wide and of the document's own.
-/
namespace Go.Proofs.YthmjgaekcghonaaGreatDoor
open Go.RowKit

/-- two types of the call's own in their boxes, the first things that the call made -/
def Bx (w w1 : World) (x y x2 y2 : Value) : Prop := Blk2 w1 w.heap.size x y ∧ Blk2 w1 (w.heap.size + 1) x2 y2 ∧ w.heap.size + 1 < w1.heap.size ∧ Below w.heap.size w w1
theorem Bx.new (w : World) (x y x2 y2 : Value) (t t2 : TypeId) : Bx w ((w.alloc (.cells #[x, y] t)).alloc (.cells #[x2, y2] t2)) x y x2 y2 :=
  ⟨(Blk2.new w _ x y t rfl).alloc (by simp) _, Blk2.new _ _ x2 y2 t2 (by simp), by simp, ((Below.refl _ _).alloc (Nat.le_refl _) _).alloc (by simp) _⟩
theorem Bx.step {w w1 w2 : World} {x y x2 y2 : Value} (h : Bx w w1 x y x2 y2) (hb : Below w1.heap.size w1 w2) : Bx w w2 x y x2 y2 := by
  obtain ⟨a, b, c, d⟩ := h
  have := hb.size
  exact ⟨a.below hb (by omega), b.below hb c, by omega, d.trans (hb.mono (by omega))⟩

theorem below_of_same {P : Program} {f : FuncId} {args : Array Value} {w : World} {v : Ending} (h : Calls P f args w fun e w' => e = v ∧ w = w') : Calls P f args w fun e w' => e = v ∧ Below w.heap.size w w' :=
  h.mono fun _ _ ⟨he, hw⟩ => ⟨he, hw ▸ Below.refl _ _⟩

/-- is the first as wide as the second? -/
def wideT (k m k2 m2 : Int) : Bool := rightT k m && rightT k2 m2 && decide (k2 ≤ k) && (numK k || decide (roomT k2 m2 ≤ m))
set_option maxRecDepth 100000 in
set_option maxHeartbeats 1600000 in
theorem twide_any (k m k2 m2 : Int) (w : World) : Calls Tryz.prog 96 #[TT k m, TT k2 m2] w fun e w' => e = .returned (.bool (wideT k m k2 m2)) ∧ Below w.heap.size w w' := by
  have HR1 := Lib.hid (fun w => tright_any k m w)
  have HR2 := Lib.hid (fun w => tright_any k2 m2 w)
  have HC := Lib.hid (fun w => reach_any k k2 w)
  have HN := Lib.hid (fun w => isnum_any k w)
  have HO := Lib.hid (fun w => room_any k2 m2 w)
  have Hv : Hid (wideT k m k2 m2 = (rightT k m && rightT k2 m2 && decide (k2 ≤ k) && (numK k || decide (roomT k2 m2 ≤ m)))) := rfl
  generalize rightT k m = a at HR1 Hv
  generalize rightT k2 m2 = b at HR2 Hv
  generalize decide (k2 ≤ k) = c at HC Hv
  generalize numK k = d at HN Hv
  generalize roomT k2 m2 = r at HO Hv
  generalize hd : decide (r ≤ m) = z at Hv
  cases a
  · go_enter Tryz.func96, Tryz.ntmps96
    go_wp2_with fail
    refine (HR1.out _).mono ?_
    rintro e w1 ⟨rfl, hb1⟩
    have HB := Lib.hid ((Bx.new w _ _ _ _ _ _).step hb1)
    clear hb1
    go_wp2_with fail
    go_ret
    exact ⟨by rw [Hv.out]; rfl, HB.out.2.2.2⟩
  cases b
  · go_enter Tryz.func96, Tryz.ntmps96
    go_wp2_with fail
    refine (HR1.out _).mono ?_
    rintro e w1 ⟨rfl, hb1⟩
    have HB := Lib.hid ((Bx.new w _ _ _ _ _ _).step hb1)
    obtain ⟨⟨c0, c1, _⟩, ⟨d0, d1, _⟩, _⟩ := HB.out
    clear hb1
    go_wp2_with fail
    refine (HR2.out _).mono ?_
    rintro e w2 ⟨rfl, hb2⟩
    have HB2 := Lib.hid (HB.out.step hb2)
    clear hb2 c0 c1 d0 d1
    go_wp2_with fail
    go_ret
    exact ⟨by rw [Hv.out]; rfl, HB2.out.2.2.2⟩
  cases c
  · go_enter Tryz.func96, Tryz.ntmps96
    go_wp2_with fail
    refine (HR1.out _).mono ?_
    rintro e w1 ⟨rfl, hb1⟩
    have HB := Lib.hid ((Bx.new w _ _ _ _ _ _).step hb1)
    obtain ⟨⟨c0, c1, _⟩, ⟨d0, d1, _⟩, _⟩ := HB.out
    clear hb1
    go_wp2_with fail
    refine (HR2.out _).mono ?_
    rintro e w2 ⟨rfl, hb2⟩
    have HB2 := Lib.hid (HB.out.step hb2)
    clear hb2 c0 c1 d0 d1
    obtain ⟨⟨c0, c1, _⟩, ⟨d0, d1, _⟩, _⟩ := HB2.out
    go_wp2_with fail
    refine (HC.out _).mono ?_
    rintro e w3 ⟨rfl, rfl⟩
    go_wp2_with fail
    go_ret
    exact ⟨by rw [Hv.out]; rfl, HB2.out.2.2.2⟩
  cases d
  · go_enter Tryz.func96, Tryz.ntmps96
    go_wp2_with fail
    refine (HR1.out _).mono ?_
    rintro e w1 ⟨rfl, hb1⟩
    have HB := Lib.hid ((Bx.new w _ _ _ _ _ _).step hb1)
    obtain ⟨⟨c0, c1, _⟩, ⟨d0, d1, _⟩, _⟩ := HB.out
    clear hb1
    go_wp2_with fail
    refine (HR2.out _).mono ?_
    rintro e w2 ⟨rfl, hb2⟩
    have HB2 := Lib.hid (HB.out.step hb2)
    clear hb2 c0 c1 d0 d1
    obtain ⟨⟨c0, c1, _⟩, ⟨d0, d1, _⟩, hlt, _⟩ := HB2.out
    go_wp2_with fail
    refine (HC.out _).mono ?_
    rintro e w3 ⟨rfl, rfl⟩
    go_wp2_with fail
    have hne : Nonempty (BelowBy w2.heap.size w2) := ⟨⟨w2, Below.refl _ _⟩⟩
    have C0 : ∀ p : BelowBy w2.heap.size w2, p.x.cell? ⟨w.heap.size, 0, none⟩ = some (.int .i64 k) := fun p => (p.h.cell (by simp; omega)).trans c0
    have C1 : ∀ p : BelowBy w2.heap.size w2, p.x.cell? ⟨w.heap.size, 1, none⟩ = some (.int .i64 m) := fun p => (p.h.cell (by simp; omega)).trans c1
    have D0 : ∀ p : BelowBy w2.heap.size w2, p.x.cell? ⟨w.heap.size + 1, 0, none⟩ = some (.int .i64 k2) := fun p => (p.h.cell (by simp; omega)).trans d0
    have D1 : ∀ p : BelowBy w2.heap.size w2, p.x.cell? ⟨w.heap.size + 1, 1, none⟩ = some (.int .i64 m2) := fun p => (p.h.cell (by simp; omega)).trans d1
    clear c0 c1 d0 d1
    refine wp_region_below w2.heap.size (by kernel_rfl) (by kernel_rfl) ?_
    repeat (
      with_reducible refine wpQuiet_step (fun K hK => ?_)
      go_simp
      refine hK _ ?_
      clear hK K)
    with_reducible refine wpQuiet_step (fun K hK => ?_)
    go_simp
    apply Exists.intro
    refine ⟨fun p => ?_, hK _ ?_⟩
    exact (below_of_same (HN.out _)).mono fun e w5 ⟨he, hb⟩ => ⟨he, p.step (Nat.le_refl _) hb⟩
    clear hK K
    repeat (
      with_reducible refine wpQuiet_step (fun K hK => ?_)
      go_simp
      refine hK _ ?_
      clear hK K)
    with_reducible refine wpQuiet_step (fun K hK => ?_)
    go_simp
    apply Exists.intro
    refine ⟨fun p => ?_, hK _ ?_⟩
    exact (HO.out _).mono fun e w5 ⟨he, hb⟩ => ⟨he, p.step (Nat.le_refl _) hb⟩
    clear hK K
    repeat (
      with_reducible refine wpQuiet_step (fun K hK => ?_)
      go_simp
      refine hK _ ?_
      clear hK K)
    refine wpQuiet_nil ?_
    rintro _ ⟨p, rfl⟩
    go_wp2_with fail
    go_ret
    exact ⟨by rw [Hv.out]; rfl, HB2.out.2.2.2.trans (p.h.mono HB2.out.2.2.2.size)⟩
  · go_enter Tryz.func96, Tryz.ntmps96
    go_wp2_with fail
    refine (HR1.out _).mono ?_
    rintro e w1 ⟨rfl, hb1⟩
    have HB := Lib.hid ((Bx.new w _ _ _ _ _ _).step hb1)
    obtain ⟨⟨c0, c1, _⟩, ⟨d0, d1, _⟩, _⟩ := HB.out
    clear hb1
    go_wp2_with fail
    refine (HR2.out _).mono ?_
    rintro e w2 ⟨rfl, hb2⟩
    have HB2 := Lib.hid (HB.out.step hb2)
    clear hb2 c0 c1 d0 d1
    obtain ⟨⟨c0, c1, _⟩, ⟨d0, d1, _⟩, hlt, _⟩ := HB2.out
    go_wp2_with fail
    refine (HC.out _).mono ?_
    rintro e w3 ⟨rfl, rfl⟩
    go_wp2_with fail
    have hne : Nonempty (BelowBy w2.heap.size w2) := ⟨⟨w2, Below.refl _ _⟩⟩
    have C0 : ∀ p : BelowBy w2.heap.size w2, p.x.cell? ⟨w.heap.size, 0, none⟩ = some (.int .i64 k) := fun p => (p.h.cell (by simp; omega)).trans c0
    clear c0 c1 d0 d1
    refine wp_region_below w2.heap.size (by kernel_rfl) (by kernel_rfl) ?_
    repeat (
      with_reducible refine wpQuiet_step (fun K hK => ?_)
      go_simp
      refine hK _ ?_
      clear hK K)
    with_reducible refine wpQuiet_step (fun K hK => ?_)
    go_simp
    apply Exists.intro
    refine ⟨fun p => ?_, hK _ ?_⟩
    exact (below_of_same (HN.out _)).mono fun e w5 ⟨he, hb⟩ => ⟨he, p.step (Nat.le_refl _) hb⟩
    clear hK K
    repeat (
      with_reducible refine wpQuiet_step (fun K hK => ?_)
      go_simp
      refine hK _ ?_
      clear hK K)
    refine wpQuiet_nil ?_
    rintro _ ⟨p, rfl⟩
    go_wp2_with fail
    go_ret
    exact ⟨by rw [Hv.out]; rfl, HB2.out.2.2.2.trans (p.h.mono HB2.out.2.2.2.size)⟩
end Go.Proofs.YthmjgaekcghonaaGreatDoor

/-
  The mathematics of column types: which are valid, which as wide as which, the least above two.
-/
namespace Go.Proofs.YthmjgaekcghonaaGreatDoor

theorem numK_iff (k : Int) : numK k = true ↔ k = 1 ∨ k = 2 := by simp [numK]
theorem strK_iff (k : Int) : strK k = true ↔ k = 3 ∨ k = 4 := by simp [strK]
theorem maxK_iff (m : Int) : maxK m = true ↔ 1 ≤ m ∧ m ≤ 120 := by simp [maxK]
theorem rightT_iff (k m : Int) : rightT k m = true ↔ ((k = 1 ∨ k = 2) ∧ m = 0) ∨ ((k = 3 ∨ k = 4) ∧ 1 ≤ m ∧ m ≤ 120) := by
  unfold rightT
  by_cases h : numK k = true
  · rw [h]
    rw [numK_iff] at h
    simp
    omega
  · have h' : numK k = false := by simpa using h
    rw [h']
    rw [numK_iff] at h
    simp only [cond_false, Bool.and_eq_true, strK_iff, maxK_iff]
    omega
theorem wideT_iff (k m k2 m2 : Int) : wideT k m k2 m2 = true ↔ rightT k m = true ∧ rightT k2 m2 = true ∧ k2 ≤ k ∧ ((k = 1 ∨ k = 2) ∨ roomT k2 m2 ≤ m) := by
  unfold wideT
  simp only [Bool.and_eq_true, Bool.or_eq_true, numK_iff, decide_eq_true_eq, and_assoc]
theorem roomT_spec (k m : Int) : (k = 1 → roomT k m = 11) ∧ (k = 2 → roomT k m = 20) ∧ (k ≠ 1 → k ≠ 2 → roomT k m = m) := by
  unfold roomT
  refine ⟨fun h => if_pos h, fun h => by rw [if_neg (by omega), if_pos h], fun h1 h2 => by rw [if_neg h1, if_neg h2]⟩
theorem bool_eq {a b : Bool} (h : a = true ↔ b = true) : a = b := by
  cases a <;> cases b <;> simp_all

/-- the document's own way -/
def rwideT (k m k2 m2 : Int) : Bool := bif k2 == 1 then (decide (k ≤ 2) || decide (11 ≤ m)) else bif k2 == 2 then ((k == 2) || (decide (2 < k) && decide (20 ≤ m))) else bif k2 == 3 then (decide (3 ≤ k) && decide (m2 ≤ m)) else ((k == 4) && decide (m2 ≤ m))
theorem rwideT_eq (k m k2 m2 : Int) (h1 : rightT k m = true) (h2 : rightT k2 m2 = true) : rwideT k m k2 m2 = wideT k m k2 m2 := by
  apply bool_eq
  rw [wideT_iff]
  have r := roomT_spec k2 m2
  simp only [h1, h2, true_and]
  rw [rightT_iff] at h1 h2
  unfold rwideT
  rcases h2 with ⟨h2 | h2, e2⟩ | ⟨h2 | h2, e2⟩
  all_goals
    subst h2
    simp
    simp at r
    omega

/-- to be as wide is an order -/
theorem wide_refl (k m : Int) : wideT k m k m = rightT k m := by
  apply bool_eq
  rw [wideT_iff]
  have r := roomT_spec k m
  constructor
  · exact fun h => h.1
  · intro h
    refine ⟨h, h, by omega, ?_⟩
    rw [rightT_iff] at h
    omega
theorem wide_anti (k m k2 m2 : Int) (h1 : wideT k m k2 m2 = true) (h2 : wideT k2 m2 k m = true) : k = k2 ∧ m = m2 := by
  rw [wideT_iff] at h1 h2
  obtain ⟨a, b, c, d⟩ := h1
  obtain ⟨_, _, c', d'⟩ := h2
  have r1 := roomT_spec k m
  have r2 := roomT_spec k2 m2
  rw [rightT_iff] at a b
  omega
theorem wide_trans (k m k2 m2 k3 m3 : Int) (h1 : wideT k m k2 m2 = true) (h2 : wideT k2 m2 k3 m3 = true) : wideT k m k3 m3 = true := by
  rw [wideT_iff] at h1 h2 ⊢
  obtain ⟨a, b, c, d⟩ := h1
  obtain ⟨_, b', c', d'⟩ := h2
  have r2 := roomT_spec k2 m2
  have r3 := roomT_spec k3 m3
  refine ⟨a, b', by omega, ?_⟩
  rw [rightT_iff] at a b b'
  omega
theorem wide_right {k m k2 m2 : Int} (h : wideT k m k2 m2 = true) : rightT k m = true ∧ rightT k2 m2 = true := by
  rw [wideT_iff] at h
  exact ⟨h.1, h.2.1⟩

/-- the least above two -/
def joinK (k k2 : Int) : Int := if k2 ≤ k then k else k2
def joinM (k m k2 m2 : Int) : Int := if numK (joinK k k2) = true then 0 else max (roomT k m) (roomT k2 m2)
theorem join_spec (k m k2 m2 : Int) (h1 : rightT k m = true) (h2 : rightT k2 m2 = true) :
    wideT (joinK k k2) (joinM k m k2 m2) k m = true ∧ wideT (joinK k k2) (joinM k m k2 m2) k2 m2 = true ∧
    ∀ k3 m3, wideT k3 m3 k m = true → wideT k3 m3 k2 m2 = true → wideT k3 m3 (joinK k k2) (joinM k m k2 m2) = true := by
  have r1 := roomT_spec k m
  have r2 := roomT_spec k2 m2
  have hj : (k2 ≤ k ∧ joinK k k2 = k) ∨ (k < k2 ∧ joinK k k2 = k2) := by
    unfold joinK
    split <;> omega
  have hm : ((joinK k k2 = 1 ∨ joinK k k2 = 2) ∧ joinM k m k2 m2 = 0) ∨ (¬ (joinK k k2 = 1 ∨ joinK k k2 = 2) ∧ joinM k m k2 m2 = max (roomT k m) (roomT k2 m2)) := by
    unfold joinM
    by_cases h : numK (joinK k k2) = true
    · exact .inl ⟨(numK_iff _).1 h, if_pos h⟩
    · exact .inr ⟨fun h' => h ((numK_iff _).2 h'), if_neg h⟩
  generalize joinK k k2 = j at hj hm ⊢
  generalize joinM k m k2 m2 = n at hm ⊢
  have r3 := roomT_spec j n
  have q1 := (rightT_iff k m).1 h1
  have q2 := (rightT_iff k2 m2).1 h2
  have hr : rightT j n = true := by
    rw [rightT_iff]
    omega
  refine ⟨?_, ?_, ?_⟩
  · rw [wideT_iff]
    exact ⟨hr, h1, by omega, by omega⟩
  · rw [wideT_iff]
    exact ⟨hr, h2, by omega, by omega⟩
  · intro k3 m3 a b
    rw [wideT_iff] at a b ⊢
    obtain ⟨a1, _, a3, a4⟩ := a
    obtain ⟨_, _, b3, b4⟩ := b
    have q3 := (rightT_iff k3 m3).1 a1
    exact ⟨a1, hr, by omega, by omega⟩
theorem join_right (k m k2 m2 : Int) (h1 : rightT k m = true) (h2 : rightT k2 m2 = true) : rightT (joinK k k2) (joinM k m k2 m2) = true := (wide_right (join_spec k m k2 m2 h1 h2).1).1
end Go.Proofs.YthmjgaekcghonaaGreatDoor

/-
  Contracts of package value's Right and of the document's own.
-/
namespace Go.Proofs.YthmjgaekcghonaaGreatDoor
open Go.RowKit

theorem emp_dec (s : ByteArray) : (s.toList == []) = decide (bs s = []) := by
  rw [ByteArray.toList_eq]
  show (bs s == []) = _
  cases bs s <;> simp
theorem zero_dec (n : Int) : (n == 0) = decide (n = 0) := by
  by_cases h : n = 0 <;> simp [h]
theorem rightV_cases (k n : Int) (l : List UInt8) : (k = 0 ∧ rightV k n l = (decide (n = 0) && decide (l = []))) ∨ (k = 1 ∧ rightV k n l = (fitsB n 32 && decide (l = []))) ∨ (k = 2 ∧ rightV k n l = decide (l = [])) ∨
    (k = 3 ∧ rightV k n l = (decide (n = 0) && decide (l.length ≤ 120) && (sg l).isSome)) ∨ (k = 4 ∧ rightV k n l = (decide (n = 0) && decide (l.length ≤ 120))) ∨ (k ≠ 0 ∧ k ≠ 1 ∧ k ≠ 2 ∧ k ≠ 3 ∧ k ≠ 4 ∧ rightV k n l = false) := by
  by_cases h0 : k = 0
  · subst h0; exact .inl ⟨rfl, rfl⟩
  by_cases h1 : k = 1
  · subst h1; exact .inr (.inl ⟨rfl, rfl⟩)
  by_cases h2 : k = 2
  · subst h2; exact .inr (.inr (.inl ⟨rfl, rfl⟩))
  by_cases h3 : k = 3
  · subst h3; exact .inr (.inr (.inr (.inl ⟨rfl, rfl⟩)))
  by_cases h4 : k = 4
  · subst h4; exact .inr (.inr (.inr (.inr (.inl ⟨rfl, rfl⟩))))
  exact .inr (.inr (.inr (.inr (.inr ⟨h0, h1, h2, h3, h4, by unfold rightV; rw [if_neg h0, if_neg h1, if_neg h2, if_neg h3, if_neg h4]⟩))))
theorem txE_zero (l : List UInt8) : ((txE l : Int) == 0) = (decide (l.length ≤ 120) && (sg l).isSome) := by
  unfold txE
  by_cases h : 120 < l.length
  · have : decide (l.length ≤ 120) = false := by simp; omega
    rw [if_pos h, this]; rfl
  · have : decide (l.length ≤ 120) = true := by simp; omega
    rw [if_neg h, this]
    cases (sg l).isSome <;> rfl
theorem byE_zero (l : List UInt8) : ((byE l : Int) == 0) = decide (l.length ≤ 120) := by
  unfold byE
  by_cases h : 120 < l.length
  · have : decide (l.length ≤ 120) = false := by simp; omega
    rw [if_pos h, this]; rfl
  · have : decide (l.length ≤ 120) = true := by simp; omega
    rw [if_neg h, this]; rfl

set_option maxRecDepth 100000 in
set_option maxHeartbeats 1600000 in
theorem vright_any (k n : Int) (s : ByteArray) (w : World) (ht : UTab w) : Calls Tryz.prog 116 #[VV k n s] w fun e w' => e = .returned (.bool (rightV k n (bs s))) ∧ Below w.heap.size w w' := by
  have HT := Lib.hid ht; clear ht
  rcases rightV_cases k n (bs s) with ⟨rfl, hv⟩ | ⟨rfl, hv⟩ | ⟨rfl, hv⟩ | ⟨rfl, hv⟩ | ⟨rfl, hv⟩ | ⟨h0, h1, h2, h3, h4, hv⟩
  · have Hv := Lib.hid hv; clear hv
    have e1 := emp_dec s
    have e2 := zero_dec n
    generalize decide (bs s = []) = b at e1 Hv
    generalize decide (n = 0) = c at e2 Hv
    cases b <;> cases c
    all_goals
      go_enter Tryz.func116, Tryz.ntmps116
      go_wp2_with fail
      go_ret
      exact ⟨by rw [Hv.out]; rfl, by go_grown⟩
  · have Hv := Lib.hid hv; clear hv
    have e1 := emp_dec s
    have HF := fun w => fits32 n w
    generalize decide (bs s = []) = b at e1 Hv
    generalize fitsB n 32 = c at HF Hv
    cases b <;> cases c
    all_goals
      go_enter Tryz.func116, Tryz.ntmps116
      go_wp2_with (go_at_call 121; refine (HF _).mono ?_; rintro e w1 ⟨rfl, rfl⟩)
      go_ret
      exact ⟨by rw [Hv.out]; rfl, by go_grown⟩
  · have Hv := Lib.hid hv; clear hv
    have e1 := emp_dec s
    generalize decide (bs s = []) = b at e1 Hv
    cases b
    all_goals
      go_enter Tryz.func116, Tryz.ntmps116
      go_wp2_with fail
      go_ret
      exact ⟨by rw [Hv.out]; rfl, by go_grown⟩
  · have Hv := Lib.hid hv; clear hv
    have e2 := zero_dec n
    have HC := fun w ht => checkText_any s w ht
    have e3 := txE_zero (bs s)
    rw [Bool.and_assoc, ← e3] at Hv
    clear e3
    generalize decide (n = 0) = c at e2 Hv
    generalize (txE (bs s) : Nat) = x at HC Hv
    have HC' := Lib.hid HC; clear HC
    cases c
    · go_enter Tryz.func116, Tryz.ntmps116
      go_wp2_with fail
      go_ret
      exact ⟨by rw [Hv.out]; rfl, by go_grown⟩
    · cases hx : ((x : Int) == 0)
      all_goals
        rw [hx] at Hv
        go_enter Tryz.func116, Tryz.ntmps116
        go_wp2_with fail
        refine (HC'.out _ (HT.out.below ((Below.refl _ _).alloc (Nat.le_refl _) _) (Nat.le_refl _))).mono ?_
        rintro e w1 ⟨rfl, hb⟩
        have hb' := below_new hb
        go_wp2_with fail
        go_ret
        exact ⟨by rw [Hv.out]; rfl, by go_grown⟩
  · have Hv := Lib.hid hv; clear hv
    have e2 := zero_dec n
    have HC := fun w => checkBytes_any s w
    have e3 := byE_zero (bs s)
    rw [← e3] at Hv
    clear e3
    generalize decide (n = 0) = c at e2 Hv
    generalize (byE (bs s) : Nat) = x at HC Hv
    have HC' := Lib.hid HC; clear HC
    cases c
    · go_enter Tryz.func116, Tryz.ntmps116
      go_wp2_with fail
      go_ret
      exact ⟨by rw [Hv.out]; rfl, by go_grown⟩
    · cases hx : ((x : Int) == 0)
      all_goals
        rw [hx] at Hv
        go_enter Tryz.func116, Tryz.ntmps116
        go_wp2_with fail
        refine (HC'.out _).mono ?_
        rintro e w1 ⟨rfl, rfl⟩
        go_wp2_with fail
        go_ret
        exact ⟨by rw [Hv.out]; rfl, by go_grown⟩
  · have Hv := Lib.hid hv; clear hv
    have d0 : (k == 0) = false := by simpa using h0
    have d1 : (k == 1) = false := by simpa using h1
    have d2 : (k == 2) = false := by simpa using h2
    have d3 : (k == 3) = false := by simpa using h3
    have d4 : (k == 4) = false := by simpa using h4
    clear h0 h1 h2 h3 h4
    go_enter Tryz.func116, Tryz.ntmps116
    go_wp2_with fail
    go_ret
    exact ⟨by rw [Hv.out]; rfl, by go_grown⟩

set_option maxRecDepth 100000 in
set_option maxHeartbeats 1600000 in
theorem vrright_any (k n : Int) (s : ByteArray) (w : World) (h1 : -9223372036854775808 ≤ n) (h2 : n < 9223372036854775808) : Calls Tryz.prog 77 #[VV k n s] w fun e w' => e = .returned (.bool (rightV k n (bs s))) ∧ Below w.heap.size w w' := by
  have HF0 := Lib.hid (fun w => rfits32 n w h1 h2); clear h1 h2
  rcases rightV_cases k n (bs s) with ⟨rfl, hv⟩ | ⟨rfl, hv⟩ | ⟨rfl, hv⟩ | ⟨rfl, hv⟩ | ⟨rfl, hv⟩ | ⟨h0, h1, h2, h3, h4, hv⟩
  · have Hv := Lib.hid hv; clear hv
    have e1 := emp_dec s
    have e2 := zero_dec n
    generalize decide (bs s = []) = b at e1 Hv
    generalize decide (n = 0) = c at e2 Hv
    cases b <;> cases c
    all_goals
      go_enter Tryz.func77, Tryz.ntmps77
      go_wp2_with fail
      go_ret
      exact ⟨by rw [Hv.out]; rfl, by go_grown⟩
  · have Hv := Lib.hid hv; clear hv
    have e1 := emp_dec s
    generalize decide (bs s = []) = b at e1 Hv
    generalize fitsB n 32 = c at HF0 Hv
    cases b <;> cases c
    all_goals
      go_enter Tryz.func77, Tryz.ntmps77
      go_wp2_with (go_at_call 100; refine (HF0.out _).mono ?_; rintro e w1 ⟨rfl, rfl⟩)
      go_ret
      exact ⟨by rw [Hv.out]; rfl, by go_grown⟩
  · have Hv := Lib.hid hv; clear hv
    have e1 := emp_dec s
    generalize decide (bs s = []) = b at e1 Hv
    cases b
    all_goals
      go_enter Tryz.func77, Tryz.ntmps77
      go_wp2_with fail
      go_ret
      exact ⟨by rw [Hv.out]; rfl, by go_grown⟩
  · have Hv := Lib.hid hv; clear hv
    have e2 := zero_dec n
    generalize decide (n = 0) = c at e2 Hv
    rw [bs_length] at Hv
    cases c
    · go_enter Tryz.func77, Tryz.ntmps77
      go_wp2_with fail
      go_ret
      exact ⟨by rw [Hv.out]; rfl, by go_grown⟩
    · by_cases hx : s.size ≤ 120
      · have d : decide ((s.size : Int) ≤ 120) = true := by simp; omega
        have d' : decide (s.size ≤ 120) = true := by simp; omega
        rw [d'] at Hv; clear d'
        have HC' := Lib.hid (fun w => rright_any s w (by omega))
        generalize (sg (bs s)).isSome = b at HC' Hv
        cases b
        all_goals
          go_enter Tryz.func77, Tryz.ntmps77
          go_wp2_with fail
          refine (HC'.out _).mono ?_
          rintro e w1 ⟨rfl, hb⟩
          have hb' := below_new hb
          go_wp2_with fail
          go_ret
          exact ⟨by rw [Hv.out]; rfl, by go_grown⟩
      · have d : decide ((s.size : Int) ≤ 120) = false := by simp; omega
        have d' : decide (s.size ≤ 120) = false := by simp; omega
        rw [d'] at Hv; clear d'
        go_enter Tryz.func77, Tryz.ntmps77
        go_wp2_with fail
        go_ret
        exact ⟨by rw [Hv.out]; rfl, by go_grown⟩
  · have Hv := Lib.hid hv; clear hv
    have e2 := zero_dec n
    generalize decide (n = 0) = c at e2 Hv
    rw [bs_length] at Hv
    have hd : decide ((s.size : Int) ≤ 120) = decide (s.size ≤ 120) := by rw [decide_eq_decide]; omega
    generalize decide (s.size ≤ 120) = b at hd Hv
    cases c <;> cases b
    all_goals
      go_enter Tryz.func77, Tryz.ntmps77
      go_wp2_with fail
      go_ret
      exact ⟨by rw [Hv.out]; rfl, by go_grown⟩
  · have Hv := Lib.hid hv; clear hv
    have d0 : (k == 0) = false := by simpa using h0
    have d1 : (k == 1) = false := by simpa using h1
    have d2 : (k == 2) = false := by simpa using h2
    have d3 : (k == 3) = false := by simpa using h3
    have d4 : (k == 4) = false := by simpa using h4
    clear h0 h1 h2 h3 h4
    go_enter Tryz.func77, Tryz.ntmps77
    go_wp2_with fail
    go_ret
    exact ⟨by rw [Hv.out]; rfl, by go_grown⟩
end Go.Proofs.YthmjgaekcghonaaGreatDoor

/-
  Contracts of package typ's Fits and of the document's own.
-/
namespace Go.Proofs.YthmjgaekcghonaaGreatDoor
open Go.RowKit

def BxTV (w w1 : World) (x y a b c : Value) : Prop := Blk2 w1 w.heap.size x y ∧ Blk3 w1 (w.heap.size + 1) a b c ∧ w.heap.size + 1 < w1.heap.size ∧ Below w.heap.size w w1
theorem BxTV.new (w : World) (x y a b c : Value) (t t2 : TypeId) : BxTV w ((w.alloc (.cells #[x, y] t)).alloc (.cells #[a, b, c] t2)) x y a b c :=
  ⟨(Blk2.new w _ x y t rfl).alloc (by simp) _, Blk3.new' _ _ a b c t2 (by simp), by simp, ((Below.refl _ _).alloc (Nat.le_refl _) _).alloc (by simp) _⟩
theorem BxTV.step {w w1 w2 : World} {x y a b c : Value} (h : BxTV w w1 x y a b c) (hb : Below w1.heap.size w1 w2) : BxTV w w2 x y a b c := by
  obtain ⟨h1, h2, h3, h4⟩ := h
  have := hb.size
  exact ⟨h1.below hb (by omega), h2.below hb h3, by omega, h4.trans (hb.mono (by omega))⟩
/-- does the value fit the type? -/
def fitT (k m k' n : Int) (s : ByteArray) : Bool := rightT k m && rightV k' n (bs s) && (k' == k) && decide ((s.size : Int) ≤ m)
def rfitT (k m k' n : Int) (s : ByteArray) : Bool := rightT k m && rightV k' n (bs s) && (k' == k) && (decide (k < 3) || decide ((s.size : Int) ≤ m))
theorem rightV_num {k n : Int} {l : List UInt8} (h : rightV k n l = true) (hk : k = 1 ∨ k = 2) : l = [] := by
  unfold rightV at h
  rcases hk with rfl | rfl <;> simp at h
  · exact h.2
  · exact h
theorem rfitT_eq (k m k' n : Int) (s : ByteArray) : rfitT k m k' n s = fitT k m k' n s := by
  apply bool_eq
  unfold rfitT fitT
  simp only [Bool.and_eq_true, Bool.or_eq_true, decide_eq_true_eq, beq_iff_eq]
  constructor
  · rintro ⟨⟨⟨h1, h2⟩, rfl⟩, h4⟩
    refine ⟨⟨⟨h1, h2⟩, rfl⟩, ?_⟩
    rcases h4 with h4 | h4
    · rw [rightT_iff] at h1
      have := rightV_num h2 (by omega)
      have hl := bs_length s
      rw [this] at hl
      simp at hl
      omega
    · exact h4
  · rintro ⟨h, h4⟩
    exact ⟨h, .inr h4⟩
set_option maxRecDepth 100000 in
set_option maxHeartbeats 1600000 in
theorem tfits_any (k m k' n : Int) (s : ByteArray) (w : World) (ht : UTab w) : Calls Tryz.prog 106 #[TT k m, VV k' n s] w fun e w' => e = .returned (.bool (fitT k m k' n s)) ∧ Below w.heap.size w w' := by
  have HT := Lib.hid ht; clear ht
  have HR := Lib.hid (fun w => tright_any k m w)
  have HV := Lib.hid (fun w ht => vright_any k' n s w ht)
  have Hv : Hid (fitT k m k' n s = (rightT k m && rightV k' n (bs s) && (k' == k) && decide ((s.size : Int) ≤ m))) := rfl
  generalize rightT k m = a at HR Hv
  generalize rightV k' n (bs s) = b at HV Hv
  generalize hc : (k' == k) = c at Hv
  generalize hd : decide ((s.size : Int) ≤ m) = d at Hv
  cases a
  · go_enter Tryz.func106, Tryz.ntmps106
    go_wp2_with fail
    refine (HR.out _).mono ?_
    rintro e w1 ⟨rfl, hb1⟩
    have HB := Lib.hid ((BxTV.new w _ _ _ _ _ _ _).step hb1)
    have HT1 := Lib.hid (((HT.out.alloc _).alloc _).below hb1 (Nat.le_refl _))
    clear hb1
    go_wp2_with fail
    go_ret
    exact ⟨by rw [Hv.out]; rfl, HB.out.2.2.2⟩
  cases b
  · go_enter Tryz.func106, Tryz.ntmps106
    go_wp2_with fail
    refine (HR.out _).mono ?_
    rintro e w1 ⟨rfl, hb1⟩
    have HB := Lib.hid ((BxTV.new w _ _ _ _ _ _ _).step hb1)
    have HT1 := Lib.hid (((HT.out.alloc _).alloc _).below hb1 (Nat.le_refl _))
    clear hb1
    obtain ⟨⟨c0, c1, _⟩, ⟨d0, d1, d2, _⟩, _⟩ := HB.out
    go_wp2_with fail
    refine (HV.out _ HT1.out).mono ?_
    rintro e w2 ⟨rfl, hb2⟩
    have HB2 := Lib.hid (HB.out.step hb2)
    clear hb2 c0 c1 d0 d1 d2
    obtain ⟨⟨c0, c1, _⟩, ⟨d0, d1, d2, _⟩, _⟩ := HB2.out
    go_wp2_with fail
    go_ret
    exact ⟨by rw [Hv.out]; rfl, HB2.out.2.2.2⟩
  cases c
  · go_enter Tryz.func106, Tryz.ntmps106
    go_wp2_with fail
    refine (HR.out _).mono ?_
    rintro e w1 ⟨rfl, hb1⟩
    have HB := Lib.hid ((BxTV.new w _ _ _ _ _ _ _).step hb1)
    have HT1 := Lib.hid (((HT.out.alloc _).alloc _).below hb1 (Nat.le_refl _))
    clear hb1
    obtain ⟨⟨c0, c1, _⟩, ⟨d0, d1, d2, _⟩, _⟩ := HB.out
    go_wp2_with fail
    refine (HV.out _ HT1.out).mono ?_
    rintro e w2 ⟨rfl, hb2⟩
    have HB2 := Lib.hid (HB.out.step hb2)
    clear hb2 c0 c1 d0 d1 d2
    obtain ⟨⟨c0, c1, _⟩, ⟨d0, d1, d2, _⟩, _⟩ := HB2.out
    go_wp2_with fail
    go_ret
    exact ⟨by rw [Hv.out]; rfl, HB2.out.2.2.2⟩
  go_enter Tryz.func106, Tryz.ntmps106
  go_wp2_with fail
  refine (HR.out _).mono ?_
  rintro e w1 ⟨rfl, hb1⟩
  have HB := Lib.hid ((BxTV.new w _ _ _ _ _ _ _).step hb1)
  have HT1 := Lib.hid (((HT.out.alloc _).alloc _).below hb1 (Nat.le_refl _))
  clear hb1
  obtain ⟨⟨c0, c1, _⟩, ⟨d0, d1, d2, _⟩, _⟩ := HB.out
  go_wp2_with fail
  refine (HV.out _ HT1.out).mono ?_
  rintro e w2 ⟨rfl, hb2⟩
  have HB2 := Lib.hid (HB.out.step hb2)
  clear hb2 c0 c1 d0 d1 d2
  obtain ⟨⟨c0, c1, _⟩, ⟨d0, d1, d2, _⟩, _⟩ := HB2.out
  go_wp2_with fail
  go_ret
  exact ⟨by rw [Hv.out]; rfl, HB2.out.2.2.2⟩
set_option maxRecDepth 100000 in
set_option maxHeartbeats 1600000 in
theorem trfits_any (k m k' n : Int) (s : ByteArray) (w : World) (h1 : -9223372036854775808 ≤ n) (h2 : n < 9223372036854775808) : Calls Tryz.prog 76 #[TT k m, VV k' n s] w fun e w' => e = .returned (.bool (fitT k m k' n s)) ∧ Below w.heap.size w w' := by
  rw [← rfitT_eq]
  have HR := Lib.hid (fun w => trright_any k m w)
  have HV := Lib.hid (fun w => vrright_any k' n s w h1 h2)
  clear h1 h2
  have Hv : Hid (rfitT k m k' n s = (rightT k m && rightV k' n (bs s) && (k' == k) && (decide (k < 3) || decide ((s.size : Int) ≤ m)))) := rfl
  generalize rightT k m = a at HR Hv
  generalize rightV k' n (bs s) = b at HV Hv
  generalize hc : (k' == k) = c at Hv
  generalize hd : decide ((s.size : Int) ≤ m) = d at Hv
  generalize hf : decide (k < 3) = f at Hv
  cases a
  · go_enter Tryz.func76, Tryz.ntmps76
    go_wp2_with fail
    refine (HR.out _).mono ?_
    rintro e w1 ⟨rfl, hb1⟩
    have HB := Lib.hid ((BxTV.new w _ _ _ _ _ _ _).step hb1)
    clear hb1
    go_wp2_with fail
    go_ret
    exact ⟨by rw [Hv.out]; rfl, HB.out.2.2.2⟩
  cases b
  · go_enter Tryz.func76, Tryz.ntmps76
    go_wp2_with fail
    refine (HR.out _).mono ?_
    rintro e w1 ⟨rfl, hb1⟩
    have HB := Lib.hid ((BxTV.new w _ _ _ _ _ _ _).step hb1)
    clear hb1
    obtain ⟨⟨c0, c1, _⟩, ⟨d0, d1, d2, _⟩, _⟩ := HB.out
    go_wp2_with fail
    refine (HV.out _).mono ?_
    rintro e w2 ⟨rfl, hb2⟩
    have HB2 := Lib.hid (HB.out.step hb2)
    clear hb2 c0 c1 d0 d1 d2
    obtain ⟨⟨c0, c1, _⟩, ⟨d0, d1, d2, _⟩, _⟩ := HB2.out
    go_wp2_with fail
    go_ret
    exact ⟨by rw [Hv.out]; rfl, HB2.out.2.2.2⟩
  cases c
  · go_enter Tryz.func76, Tryz.ntmps76
    go_wp2_with fail
    refine (HR.out _).mono ?_
    rintro e w1 ⟨rfl, hb1⟩
    have HB := Lib.hid ((BxTV.new w _ _ _ _ _ _ _).step hb1)
    clear hb1
    obtain ⟨⟨c0, c1, _⟩, ⟨d0, d1, d2, _⟩, _⟩ := HB.out
    go_wp2_with fail
    refine (HV.out _).mono ?_
    rintro e w2 ⟨rfl, hb2⟩
    have HB2 := Lib.hid (HB.out.step hb2)
    clear hb2 c0 c1 d0 d1 d2
    obtain ⟨⟨c0, c1, _⟩, ⟨d0, d1, d2, _⟩, _⟩ := HB2.out
    go_wp2_with fail
    go_ret
    exact ⟨by rw [Hv.out]; rfl, HB2.out.2.2.2⟩
  cases f
  · go_enter Tryz.func76, Tryz.ntmps76
    go_wp2_with fail
    refine (HR.out _).mono ?_
    rintro e w1 ⟨rfl, hb1⟩
    have HB := Lib.hid ((BxTV.new w _ _ _ _ _ _ _).step hb1)
    clear hb1
    obtain ⟨⟨c0, c1, _⟩, ⟨d0, d1, d2, _⟩, _⟩ := HB.out
    go_wp2_with fail
    refine (HV.out _).mono ?_
    rintro e w2 ⟨rfl, hb2⟩
    have HB2 := Lib.hid (HB.out.step hb2)
    clear hb2 c0 c1 d0 d1 d2
    obtain ⟨⟨c0, c1, _⟩, ⟨d0, d1, d2, _⟩, _⟩ := HB2.out
    go_wp2_with fail
    go_ret
    exact ⟨by rw [Hv.out]; rfl, HB2.out.2.2.2⟩
  · go_enter Tryz.func76, Tryz.ntmps76
    go_wp2_with fail
    refine (HR.out _).mono ?_
    rintro e w1 ⟨rfl, hb1⟩
    have HB := Lib.hid ((BxTV.new w _ _ _ _ _ _ _).step hb1)
    clear hb1
    obtain ⟨⟨c0, c1, _⟩, ⟨d0, d1, d2, _⟩, _⟩ := HB.out
    go_wp2_with fail
    refine (HV.out _).mono ?_
    rintro e w2 ⟨rfl, hb2⟩
    have HB2 := Lib.hid (HB.out.step hb2)
    clear hb2 c0 c1 d0 d1 d2
    obtain ⟨⟨c0, c1, _⟩, ⟨d0, d1, d2, _⟩, _⟩ := HB2.out
    go_wp2_with fail
    go_ret
    exact ⟨by rw [Hv.out]; rfl, HB2.out.2.2.2⟩
end Go.Proofs.YthmjgaekcghonaaGreatDoor
