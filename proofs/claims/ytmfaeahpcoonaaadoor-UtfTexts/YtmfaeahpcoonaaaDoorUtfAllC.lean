/-
  Contracts of utf.Right, Signs, Cut, Text.
-/
import Derived.Test.YtmfaeahpcoonaaaDoorUtfEachC
namespace Go.Proofs.YtmfaeahpcoonaaaDoor
open Go.RowKit

set_option maxRecDepth 100000 in
set_option maxHeartbeats 400000 in
theorem right_any (s : ByteArray) (w : World) (ht : UTab w) (hs : s.size ≤ 1000000) :
    Calls Tryd.prog 17 #[.string s] w fun e w' => e = .returned (.bool (sg (bs s)).isSome) ∧ Below w.heap.size w w' := by
  have HC := Lib.hid (fun w' h => count_any s w' h hs)
  have HT := Lib.hid ht; clear ht
  cases hsg : sg (bs s) with
  | none =>
    rw [hsg] at HC
    go_enter Tryd.func17, Tryd.ntmps17
    go_wp2_with fail
    refine (HC.out _ HT.out).mono ?_
    rintro e w1 ⟨rfl, hb1⟩
    go_wp2
    go_ret
    exact ⟨rfl, hb1⟩
  | some ns =>
    rw [hsg] at HC
    go_enter Tryd.func17, Tryd.ntmps17
    go_wp2_with fail
    refine (HC.out _ HT.out).mono ?_
    rintro e w1 ⟨rfl, hb1⟩
    go_wp2
    go_ret
    exact ⟨rfl, hb1⟩

set_option maxRecDepth 100000 in
set_option maxHeartbeats 400000 in
theorem signs1_any (Bl n : Nat) (y : Int) (v : Value) (ns : List Nat) (w : World) (h : One w Bl v 30) (ho : OwnI w (Bl + 1) v (toI ns)) (hn : ns.length < 1000000) :
    Calls Tryd.prog 29 #[.int .i64 n, .int .i64 y, .pointer (some ⟨Bl, 0, none⟩)] w fun e w' => e = .returned (.tuple #[]) ∧ (∃ v', One w' Bl v' 30 ∧ OwnI w' (Bl + 1) v' (toI (ns ++ [n]))) ∧ Below Bl w w' := by
  have hc := cell_of_one h
  have hf := free_of_one h
  have hlt := h.lt
  have H := Lib.hid h; clear h
  have HO := Lib.hid ho; clear ho
  go_enter Tryd.func29, Tryd.ntmps29
  go_wp2_with (at_builtin; refine wpList_append_int rfl _ _ rfl (Bl + 1) _ (toI ns) n HO.out rfl rfl (by rw [toI_length]; omega) (by omega) ?_; intro v' w2 ho2 _ hb2; obtain ⟨g, cp, rfl⟩ := ho2.form (by simp); have h2 := Lib.hid (H.out.keep hb2 (by omega)); have hc2 := cell_of_one h2.out; have hf2 := free_of_one h2.out)
  go_end0
  have h3 : OwnI (w2.setCell ⟨Bl, 0, none⟩ (.slice (some ⟨g, 0, none⟩) ((toI ns).length + 1) cp)) (Bl + 1) (.slice (some ⟨g, 0, none⟩) (toI ns ++ [(n : Int)]).length cp) (toI ns ++ [(n : Int)]) := ownsRow_setCell_below (a := ⟨Bl, 0, none⟩) ho2 (by show Bl < Bl + 1; omega) _
  rw [List.length_append] at h3
  exact ⟨rfl, ⟨_, one_setCell h2.out, by rw [toI_snoc]; exact h3⟩, (hb2.mono (show Bl ≤ Bl + 1 by omega)).setCell (p := ⟨Bl, 0, none⟩) (Nat.le_refl _) _⟩
theorem entersSigns : ∀ args w, (callFunc 29 args).run Tryd.prog w = .ok (.enter 29 args) w := Go.Proofs.enters_of Tryd.func29 (by kernel_rfl) rfl

set_option maxRecDepth 100000 in
set_option maxHeartbeats 400000 in
theorem signs_any (s : ByteArray) (w : World) (ht : UTab w) (hs : s.size < 1000000) :
    Calls Tryd.prog 20 #[.string s] w fun e w' => ∃ v b, e = .returned v ∧ signsV (bs s) w' w.heap.size v b ∧ Below w.heap.size w w' := by
  have HT := Lib.hid ht; clear ht
  have hmf : ∀ (fn : Fn) (first cap : Array Value) (w : World), (Instr.makeFunc fn first cap).run Tryd.prog w = .ok (.func fn first cap) w := fun _ _ _ _ => rfl
  have h1 : One (w.alloc (.cells #[.slice none 0 0] 30)) w.heap.size (.slice none 0 0) 30 := heap_alloc_new w _
  have H1 := Lib.hid h1; clear h1
  have Heach := Lib.hid (each_any s 29 w.heap.size #[.pointer (some ⟨w.heap.size, 0, none⟩)] (fun ns _ wr => ∃ v, One wr w.heap.size v 30 ∧ OwnI wr (w.heap.size + 1) v (toI ns)) (w.alloc (.cells #[.slice none 0 0] 30)) (HT.out.alloc _) (by omega)
    HT.out.pos.1 HT.out.pos.2 (by simp) entersSigns (fun ns p wr wr' ⟨v, h, ho⟩ hb => ⟨v, h.keep hb h.lt, ho.below hb⟩)
    (fun ns p n k wr hg hr ⟨v, h, ho⟩ hB => signs1_any w.heap.size n _ v ns wr h ho (by have := hg.len; have := hg.2.2; rw [bs_length] at this; omega)) ⟨_, H1.out, OwnI.nil _ _⟩)
  cases hsg : sg (bs s) with
  | none =>
    have Hsg := Lib.hid hsg; clear hsg
    go_enter Tryd.func20, Tryd.ntmps20
    go_wp2_with fail
    refine Heach.out.mono ?_
    rintro e w1 ⟨rfl, _, hb1⟩
    rw [Hsg.out]
    go_wp2
    go_ret
    exact ⟨_, false, rfl, .inr ⟨Hsg.out, rfl, rfl⟩, ((Below.refl _ _).alloc (Nat.le_refl _) _).trans hb1⟩
  | some ns =>
    have Hsg := Lib.hid hsg; clear hsg
    go_enter Tryd.func20, Tryd.ntmps20
    go_wp2_with fail
    refine Heach.out.mono ?_
    rintro e w1 ⟨rfl, h2, hb1⟩
    rw [Hsg.out]
    obtain ⟨v, hv, ho⟩ := h2 ns Hsg.out
    have hc := cell_of_one hv
    have HO := Lib.hid ho; clear ho h2
    go_wp2
    go_ret
    exact ⟨_, true, rfl, .inl ⟨ns, Hsg.out, HO.out.mono (by omega), rfl⟩, ((Below.refl _ _).alloc (Nat.le_refl _) _).trans hb1⟩

set_option maxRecDepth 100000 in
set_option maxHeartbeats 400000 in
theorem cut1_any (Bm c e' : Nat) (x most : Int) (w : World) (h : One w Bm (.int .i64 most) 3) (h2 : One w (Bm + 1) (.int .i64 c) 3) :
    Calls Tryd.prog 30 #[.int .i64 x, .int .i64 e', .pointer (some ⟨Bm, 0, none⟩), .pointer (some ⟨Bm + 1, 0, none⟩)] w fun e w' => e = .returned (.tuple #[]) ∧ One w' Bm (.int .i64 most) 3 ∧ One w' (Bm + 1) (.int .i64 (if (e' : Int) ≤ most then e' else c : Nat)) 3 ∧ Below Bm w w' := by
  have hc := cell_of_one h
  have hc2 := cell_of_one h2
  have hf2 := free_of_one h2
  by_cases hle : (e' : Int) ≤ most
  · rw [if_pos hle]
    have R : One (w.setCell ⟨Bm + 1, 0, none⟩ (.int .i64 e')) (Bm + 1) (.int .i64 e') 3 := one_setCell h2
    have R2 : One (w.setCell ⟨Bm + 1, 0, none⟩ (.int .i64 e')) Bm (.int .i64 most) 3 := by
      unfold One at h ⊢
      rw [Below.heap_setCell _ _ _ _ (by show Bm ≠ Bm + 1; omega)]; exact h
    have HR := Lib.hid R; have HR2 := Lib.hid R2; clear R R2
    have H := Lib.hid h; have H2 := Lib.hid h2; clear h h2
    go_enter Tryd.func30, Tryd.ntmps30
    go_wp2
    go_end0
    exact ⟨rfl, HR2.out, HR.out, (Below.refl Bm w).setCell (p := ⟨Bm + 1, 0, none⟩) (by show Bm ≤ Bm + 1; omega) _⟩
  · rw [if_neg hle]
    have H := Lib.hid h; have H2 := Lib.hid h2; clear h h2
    go_enter Tryd.func30, Tryd.ntmps30
    go_wp2
    go_end0
    exact ⟨rfl, H.out, H2.out, Below.refl _ _⟩
theorem entersCut : ∀ args w, (callFunc 30 args).run Tryd.prog w = .ok (.enter 30 args) w := Go.Proofs.enters_of Tryd.func30 (by kernel_rfl) rfl

set_option maxRecDepth 100000 in
set_option maxHeartbeats 400000 in
theorem cut_any (s : ByteArray) (most : Int) (w : World) (ht : UTab w) (hs : s.size ≤ 1000000) :
    Calls Tryd.prog 21 #[.string s, .int .i64 most] w fun e w' => (∀ c, (sg (bs s)).isSome = true → CutAt (bs s) most s.size c → e = .returned (.string (s.extract 0 c))) ∧ (sg (bs s) = none → e = .returned (.string ⟨#[]⟩)) ∧ Below w.heap.size w w' := by
  have HT := Lib.hid ht; clear ht
  have hmf : ∀ (fn : Fn) (first cap : Array Value) (w : World), (Instr.makeFunc fn first cap).run Tryd.prog w = .ok (.func fn first cap) w := fun _ _ _ _ => rfl
  have h2 : One ((w.alloc (.cells #[.int .i64 most] 3)).alloc (.cells #[.int .i64 0] 3)) (w.heap.size + 1) (.int .i64 (0 : Nat)) 3 := by
    have := heap_alloc_new (w.alloc (.cells #[.int .i64 most] 3)) (.cells #[.int .i64 0] 3)
    rw [show (w.alloc (.cells #[.int .i64 most] 3)).heap.size = w.heap.size + 1 by simp] at this
    exact this
  have h1 : One ((w.alloc (.cells #[.int .i64 most] 3)).alloc (.cells #[.int .i64 0] 3)) w.heap.size (.int .i64 most) 3 :=
    One.keep (heap_alloc_new w _) ((Below.refl (w.heap.size + 1) _).alloc (by simp) _) (by omega)
  have H1 := Lib.hid h1; clear h1
  have H2 := Lib.hid h2; clear h2
  have Heach := Lib.hid (each_any s 30 w.heap.size #[.pointer (some ⟨w.heap.size, 0, none⟩), .pointer (some ⟨w.heap.size + 1, 0, none⟩)]
    (fun _ p wr => One wr w.heap.size (.int .i64 most) 3 ∧ ∃ c : Nat, One wr (w.heap.size + 1) (.int .i64 c) 3 ∧ CutAt (bs s) most p c)
    ((w.alloc (.cells #[.int .i64 most] 3)).alloc (.cells #[.int .i64 0] 3)) ((HT.out.alloc _).alloc _) hs
    HT.out.pos.1 HT.out.pos.2 (by simp; omega) entersCut (fun ns p wr wr' ⟨h, c, h3, h4⟩ hb => ⟨h.keep hb h.lt, c, h3.keep hb h3.lt, h4⟩)
    (fun ns p n k wr hg hr ⟨h, c, h3, h4⟩ hB => (cut1_any w.heap.size c (p + k) _ most wr h h3).mono fun e w' ⟨h5, h6, h7, h8⟩ => ⟨h5, ⟨h6, _, h7, by
      split
      · rename_i hm; exact CutAt.yes hm (hg.more hr)
      · rename_i hm; exact h4.no (by omega) hg hr⟩, h8⟩) ⟨H1.out, 0, H2.out, CutAt.zero _ _⟩)
  have hbel : Hid (Below w.heap.size w ((w.alloc (.cells #[.int .i64 most] 3)).alloc (.cells #[.int .i64 0] 3))) := ((Below.refl _ _).alloc (Nat.le_refl _) _).alloc (by simp) _
  cases hsg : sg (bs s) with
  | none =>
    have Hsg := Lib.hid hsg; clear hsg
    go_enter Tryd.func21, Tryd.ntmps21
    go_wp2_with fail
    refine Heach.out.mono ?_
    rintro e w1 ⟨rfl, _, hb1⟩
    rw [Hsg.out]
    go_wp2
    go_ret
    exact ⟨(fun _ h => by cases h), fun _ => rfl, hbel.out.trans hb1⟩
  | some ns =>
    have Hsg := Lib.hid hsg; clear hsg
    go_enter Tryd.func21, Tryd.ntmps21
    go_wp2_with fail
    refine Heach.out.mono ?_
    rintro e w1 ⟨rfl, h2, hb1⟩
    rw [Hsg.out]
    obtain ⟨_, c, hv, hcut⟩ := h2 ns Hsg.out
    have hc := cell_of_one hv
    have hcs := hcut.1
    have HC := Lib.hid hcut; clear hcut h2
    go_wp2
    go_ret
    exact ⟨(fun c' _ h => by rw [← CutAt.uniq HC.out h]; rfl), (fun h => by cases h), hbel.out.trans hb1⟩

set_option maxRecDepth 100000 in
set_option maxHeartbeats 800000 in
theorem text_any (A : Option Addr) (c : Nat) (zs : List Int) (w : World) (ht : UTab w) (hA : IntsAt w w.heap.size A zs) (hl : zs.length ≤ 1000000) :
    Calls Tryd.prog 15 #[.slice A zs.length c] w fun e w' => e = .returned (.tuple #[.string ⟨(txtV zs).1.toArray⟩, .bool (txtV zs).2]) ∧ Below w.heap.size w w' := by
  have HA := Lib.hid hA; clear hA
  have HT := Lib.hid ht; clear ht
  go_enter Tryd.func15, Tryd.ntmps15
  go_wp2_with fail
  go_loopw [4, 11] (fun u i wr => ∃ k : Nat, k ≤ zs.length ∧ i = .int .i64 k ∧ Hid (OwnB wr w.heap.size u (txt (zs.take k))) ∧ Hid ((zs.take k).all isP = true) ∧ Below w.heap.size w wr) (fun _ i _ => zs.length - (intOf i).toNat)
  case atStart => exact ⟨0, by omega, rfl, OwnB.nil _ _, rfl, Below.refl _ _⟩
  case round =>
    obtain ⟨k, hk, rfl, ho, hall, hb⟩ := hrel
    by_cases hlt : k < zs.length
    · obtain ⟨b, off, rfl, hbB, hc⟩ := HA.out (by omega)
      have hcell : wr.cell? ⟨b, off + k, none⟩ = some (.int .i64 zs[k]) := (hb.cell (by exact hbB)).trans (hc k hlt)
      have Hc := Lib.hid hc; clear hc
      have hsz := hb.size
      have HTr := Lib.hid (HT.out.below hb (Nat.le_refl _))
      cases hP : isP zs[k] with
      | false =>
        have Hx := Lib.hid (txtV_bad hlt hP)
        go_wp2_with (go_at_call 9; refine (put_no _ _ hP).mono ?_; rintro e w1 ⟨rfl, rfl⟩)
        go_ret2
        exact ⟨by rw [Hx.out]; rfl, hb⟩
      | true =>
        obtain ⟨n, hz, hPn, hn⟩ := isP_nat hP
        have HtS : Hid (txt (zs.take k) ++ enc n = txt (zs.take (k + 1))) := by
          show _ = _
          rw [List.take_succ_eq_append_getElem hlt, hz, txt_snoc]
        have Hall : Hid ((zs.take (k + 1)).all isP = true) := all_take hlt hall.out hP
        have htl : (txt (zs.take k)).length ≤ 4000000 := by
          have := txt_length (zs.take k)
          rw [List.length_take] at this; omega
        have hel := enc_length n
        have hel2 := esz_le n
        rw [hz] at hcell
        have HPn := Lib.hid hPn; clear hPn
        have Hz := Lib.hid hz; clear hz hP
        go_wp2_with fail
        refine (put_yes n _ HTr.out HPn.out).mono ?_
        rintro e w1 ⟨rfl, hb1⟩
        have ho1 := Lib.hid (ho.out.below hb1)
        have hs1 := hb1.size
        go_wp2_with (at_builtin; refine wpList_append_str rfl _ _ rfl w.heap.size _ (txt (zs.take k)) ⟨(enc n).toArray⟩ ho1.out rfl rfl (by rw [ba_size (enc n)]; omega) (by omega) ?_; intro v' w2 ho2 hb2)
        go_roundw
        case rel => exact ⟨k + 1, by omega, by go_num, by show OwnB _ _ _ _; rw [← HtS.out]; exact ho2, Hall, (hb.trans (hb1.mono hsz)).trans hb2⟩
        case measure => simp [intOf]; omega
    · obtain rfl : k = zs.length := by omega
      have Hx := Lib.hid (txtV_good hall.out)
      have ho2 := ho.out
      rw [List.take_length] at ho2
      have hcv := run_string_own ho2 _ (fun _ => rfl)
      clear ho2
      go_wp2
      go_ret2
      exact ⟨by rw [Hx.out]; rfl, hb⟩
end Go.Proofs.YtmfaeahpcoonaaaDoor
