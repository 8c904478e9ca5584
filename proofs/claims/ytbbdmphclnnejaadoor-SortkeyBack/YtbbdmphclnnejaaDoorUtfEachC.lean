/-
  Contracts of utf.each, Count, Signs, Right, Cut, Text.
-/
import Derived.Test.YtbbdmphclnnejaaDoorUtfPutC
import Derived.Test.YtbbdmphclnnejaaDoorUtfReadC
import Derived.Test.YtbbdmphclnnejaaDoorUtfRefMoreC
import Derived.Shelf.Abstract
namespace Go.Proofs.YtbbdmphclnnejaaDoor
open Go.RowKit

theorem UTab.under {w w' : World} {B : Nat} (h : UTab w) (hb : Below B w w') (h1 : 0 < B) (h2 : 1 < B) : UTab w' :=
  ⟨fun i hi => (hb.cell (p := ⟨0, i, none⟩) h1).trans (h.1 i hi), fun i hi => (hb.cell (p := ⟨1, i, none⟩) h2).trans (h.2 i hi)⟩

set_option maxRecDepth 100000 in
set_option maxHeartbeats 800000 in
theorem each_any (s : ByteArray) (F B : Nat) (caps : Array Value) (I : List Nat → Nat → World → Prop) (w : World) (ht : UTab w) (hs : s.size ≤ 1000000) (h1 : 0 < B) (h2 : 1 < B) (hB : B ≤ w.heap.size)
    (hF : ∀ args w, (callFunc F args).run Tryd.prog w = .ok (.enter F args) w)
    (hkeep : ∀ ns p wr wr', I ns p wr → Below wr.heap.size wr wr' → I ns p wr')
    (hcall : ∀ ns p n k wr, Got (bs s) ns p → rd ((bs s).drop p) = some (n, k) → I ns p wr → B ≤ wr.heap.size →
      Calls Tryd.prog F (#[.int .i64 (n : Int), .int .i64 ((p + k : Nat) : Int)] ++ caps) wr fun e w' => e = .returned (.tuple #[]) ∧ I (ns ++ [n]) (p + k) w' ∧ Below B wr w')
    (h0 : I [] 0 w) :
    Calls Tryd.prog 52 #[.string s, .func (.func F) #[] caps] w fun e w' => e = .returned (.bool (sg (bs s)).isSome) ∧ (∀ ns, sg (bs s) = some ns → I ns s.size w') ∧ Below B w w' := by
  have HT := Lib.hid ht; clear ht
  have HK := Lib.hid hkeep; clear hkeep
  have HC := Lib.hid hcall; clear hcall
  go_enter Tryd.func52, Tryd.ntmps52
  go_wp2_with fail
  go_loopw [5] (fun i wr => ∃ (p : Nat) (ns : List Nat), p ≤ s.size ∧ i = .int .i64 p ∧ Hid (Got (bs s) ns p) ∧ Hid (I ns p wr) ∧ Below B w wr) (fun i _ => s.size - (intOf i).toNat)
  case atStart => exact ⟨0, [], by omega, rfl, Got.zero _, h0, Below.refl _ _⟩
  case round =>
    obtain ⟨p, ns, hp, rfl, hg, hI, hb⟩ := hrel
    have hsz := hb.size
    by_cases hlt : p < s.size
    · have Hbr := Lib.hid (bs_rest s p)
      have hsl : (s.extract p s.size).size = s.size - p := by simp
      have HTr := Lib.hid (HT.out.under hb h1 h2)
      cases hrd : rd ((bs s).drop p) with
      | none =>
        have Hno := Lib.hid (hg.out.stop (by rw [bs_length]; exact hlt) hrd)
        have Hrd : Hid (rd (bs (s.extract p s.size)) = none) := by show _ = _; rw [Hbr.out]; exact hrd
        clear hrd
        go_wp2_with fail
        refine (read_no (s.extract p s.size) _ HTr.out (by omega) Hrd.out).mono ?_
        rintro e w1 ⟨rfl, hb1⟩
        go_wp2
        go_ret
        exact ⟨by rw [Hno.out]; rfl, (fun ns' h => by rw [Hno.out] at h; cases h), hb.trans (hb1.mono (by omega))⟩
      | some q =>
        obtain ⟨n, k⟩ := q
        have hpos := rd_pos hrd
        rw [List.length_drop, bs_length] at hpos
        have Hrd : Hid (rd (bs (s.extract p s.size)) = some (n, k)) := by show _ = _; rw [Hbr.out]; exact hrd
        have Hg2 := Lib.hid (hg.out.more hrd)
        have Hcl := Lib.hid (fun wr hi hb => HC.out ns p n k wr hg.out hrd hi hb)
        clear hrd
        go_wp2_with fail
        refine (read_yes (s.extract p s.size) n k _ HTr.out (by omega) Hrd.out).mono ?_
        rintro e w1 ⟨rfl, hb1⟩
        have hI1 := Lib.hid (HK.out _ _ _ _ hI.out hb1)
        have hs1 := hb1.size
        go_wp2_with fail
        refine (Hcl.out w1 hI1.out (by omega)).mono ?_
        rintro e w2 ⟨rfl, hI2, hb2⟩
        have HI2 := Lib.hid hI2; clear hI2
        go_wp2
        go_roundw
        case rel => exact ⟨p + k, ns ++ [n], by omega, by go_num, Hg2, HI2, (hb.trans (hb1.mono (by omega))).trans hb2⟩
        case measure => simp [intOf]; omega
    · obtain rfl : p = s.size := by omega
      have hg2 := hg.out
      rw [← bs_length s] at hg2
      have Hd := Lib.hid hg2.done
      clear hg2
      go_wp2_with fail
      go_ret
      exact ⟨by rw [Hd.out]; rfl, (fun ns' h => by rw [Hd.out] at h; cases h; exact hI.out), hb⟩

/-- a variable of one cell -/
def One (w : World) (b : Nat) (v : Value) (t : TypeId) : Prop := w.heap[b]? = some (.cells #[v] t (0, 0))
theorem One.keep {w w' : World} {b B : Nat} {v : Value} {t : TypeId} (h : One w b v t) (hb : Below B w w') (hB : b < B) : One w' b v t := by
  unfold One at h ⊢
  rw [← h]; exact hb.block b hB
theorem One.lt {w : World} {b : Nat} {v : Value} {t : TypeId} (h : One w b v t) : b < w.heap.size := (Array.getElem?_eq_some_iff.1 h).1

set_option maxRecDepth 100000 in
set_option maxHeartbeats 400000 in
theorem count1_any (Bn m : Nat) (x y : Int) (w : World) (h : One w Bn (.int .i64 m) 3) (hm : m < 4611686018427387904) :
    Calls Tryd.prog 53 #[.int .i64 x, .int .i64 y, .pointer (some ⟨Bn, 0, none⟩)] w fun e w' => e = .returned (.tuple #[]) ∧ One w' Bn (.int .i64 (m + 1 : Nat)) 3 ∧ Below Bn w w' := by
  have hc := cell_of_one h
  have hf := free_of_one h
  have R : One (w.setCell ⟨Bn, 0, none⟩ (.int .i64 ((m : Int) + 1))) Bn (.int .i64 (m + 1 : Nat)) 3 := one_setCell h
  have HR := Lib.hid R; clear R
  have H := Lib.hid h; clear h
  go_enter Tryd.func53, Tryd.ntmps53
  go_wp2
  go_end0
  exact ⟨rfl, HR.out, (Below.refl Bn w).setCell (p := ⟨Bn, 0, none⟩) (Nat.le_refl _) _⟩
theorem entersCount : ∀ args w, (callFunc 53 args).run Tryd.prog w = .ok (.enter 53 args) w := Go.Proofs.enters_of Tryd.func53 (by kernel_rfl) rfl

set_option maxRecDepth 100000 in
set_option maxHeartbeats 400000 in
theorem count_any (s : ByteArray) (w : World) (ht : UTab w) (hs : s.size ≤ 1000000) :
    Calls Tryd.prog 49 #[.string s] w fun e w' => e = .returned (.int .i64 (match sg (bs s) with | some ns => (ns.length : Int) | none => -1)) ∧ Below w.heap.size w w' := by
  have HT := Lib.hid ht; clear ht
  have hmf : ∀ (fn : Fn) (first cap : Array Value) (w : World), (Instr.makeFunc fn first cap).run Tryd.prog w = .ok (.func fn first cap) w := fun _ _ _ _ => rfl
  have h1 : One (w.alloc (.cells #[.int .i64 0] 3)) w.heap.size (.int .i64 (([] : List Nat).length : Nat)) 3 := heap_alloc_new w _
  have H1 := Lib.hid h1; clear h1
  have Heach := Lib.hid (each_any s 53 w.heap.size #[.pointer (some ⟨w.heap.size, 0, none⟩)] (fun ns _ wr => One wr w.heap.size (.int .i64 (ns.length : Nat)) 3) (w.alloc (.cells #[.int .i64 0] 3)) (HT.out.alloc _) hs
    HT.out.pos.1 HT.out.pos.2 (by simp) entersCount (fun ns p wr wr' h hb => h.keep hb h.lt)
    (fun ns p n k wr hg hr hI hB => (count1_any w.heap.size ns.length _ _ wr hI (by have := hg.len; have := hg.2.2; rw [bs_length] at this; omega)).mono fun e w' ⟨h1, h2, h3⟩ => ⟨h1, by rw [List.length_append]; exact h2, h3⟩) H1.out)
  cases hsg : sg (bs s) with
  | none =>
    have Hsg := Lib.hid hsg; clear hsg
    go_enter Tryd.func49, Tryd.ntmps49
    go_wp2_with fail
    refine Heach.out.mono ?_
    rintro e w1 ⟨rfl, _, hb1⟩
    rw [Hsg.out]
    go_wp2
    go_ret
    exact ⟨rfl, ((Below.refl _ _).alloc (Nat.le_refl _) _).trans hb1⟩
  | some ns =>
    have Hsg := Lib.hid hsg; clear hsg
    go_enter Tryd.func49, Tryd.ntmps49
    go_wp2_with fail
    refine Heach.out.mono ?_
    rintro e w1 ⟨rfl, h2, hb1⟩
    rw [Hsg.out]
    have hc := cell_of_one (h2 ns Hsg.out)
    clear h2
    go_wp2
    go_ret
    exact ⟨rfl, ((Below.refl _ _).alloc (Nat.le_refl _) _).trans hb1⟩
end Go.Proofs.YtbbdmphclnnejaaDoor
