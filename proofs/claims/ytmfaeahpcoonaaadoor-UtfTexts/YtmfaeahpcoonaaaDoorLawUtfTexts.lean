/-
  UtfTexts: for every string and every slice of numbers the law returns true: whether the string is valid, how many code points and which it has, and the text of the numbers are what the page says. No condition but that the two tables read as the program's text lays them (tied by the card).
-/
import Derived.Test.YtmfaeahpcoonaaaDoorUtfLivesC
import Derived.Test.YtmfaeahpcoonaaaDoorTie
import Derived.Test.YtmfaeahpcoonaaaDoorCards
import Derived.ProofKit
import Derived.OpenShut
import Derived.ShutString
import Derived.ChangeOld
import Derived.LaidMore
import Derived.SevenTiedAt
namespace Go.Proofs.YtmfaeahpcoonaaaDoor.utfTexts
open Go.ChangeShapes Go.WideShapes Go.ChangeAt Go.RowKit
open Go.ChangeMaps (open_string shut_string)

theorem ints_of {w : World} {a : Option Addr} {len cap : Nat} {zs : List Int} (h : IntsIn .i64 w a len cap zs) :
    ∃ ns : List Int, ns.length = len ∧ IntsAt w w.heap.size a ns := by
  rcases h with ⟨rfl, rfl, rfl, rfl⟩ | ⟨x, rfl, h1, h2, h3, h4, h5⟩
  · exact ⟨[], rfl, fun h => absurd h (by simp)⟩
  · refine ⟨zs.take len, by simp; omega, fun h => ?_⟩
    simp at h
    obtain ⟨b, off, rfl, hc⟩ := ints_at h4 (by omega)
    refine ⟨b, off, rfl, ?_, fun j hj => ?_⟩
    · exact World.block_lt_of_cell? w ⟨b, off, none⟩ (by simpa using hc 0 (by omega))
    · simp at hj
      rw [hc j (by omega), List.getElem_take, List.getD_eq_getElem?_getD, List.getElem?_eq_getElem (by omega)]
      rfl

set_option maxRecDepth 100000 in
set_option maxHeartbeats 400000 in
theorem walk_t (s : ByteArray) (A : Option Addr) (c : Nat) (zs : List Int) (w : World) (hs : s.size ≤ maxLen) (hl : zs.length ≤ maxLen) (hA : IntsAt w w.heap.size A zs) (ht : UTab w) :
    Calls Tryd.prog 4 #[.string s, .slice A zs.length c] w fun e w' => e = .returned (.bool true) ∧ Below w.heap.size w w' := by
  unfold maxLen at hs hl
  have HT := Lib.hid ht; clear ht
  have HA := Lib.hid hA; clear hA
  by_cases h : 100 < s.size
  · have hd : decide (100 < (s.size : Int)) = true := by simp; omega
    go_enter Tryd.func4, Tryd.ntmps4
    go_wp2_with (go_at_call 8; refine (lives3_any _ HT.out).mono ?_; rintro e w1 ⟨rfl, hb1⟩)
    go_ret
    exact ⟨rfl, hb1⟩
  have hd : decide (100 < (s.size : Int)) = false := by simp; omega
  by_cases h2 : 60 < zs.length
  · have hd2 : decide (60 < (zs.length : Int)) = true := by simp; omega
    go_enter Tryd.func4, Tryd.ntmps4
    go_wp2_with (go_at_call 8; refine (lives3_any _ HT.out).mono ?_; rintro e w1 ⟨rfl, hb1⟩)
    go_ret
    exact ⟨rfl, hb1⟩
  have hd2 : decide (60 < (zs.length : Int)) = false := by simp; omega
  obtain ⟨t, b, Ht⟩ : ∃ (t : ByteArray) (b : Bool), Hid (t = ⟨(txtV zs).1.toArray⟩ ∧ b = (txtV zs).2) := ⟨_, _, rfl, rfl⟩
  have Hu := Lib.hid (fun w h h3 => text_any A c zs w h h3 (by omega))
  have Hr := Lib.hid (fun w h3 => rtext_any A c zs w h3 (by omega))
  rw [← Ht.out.1, ← Ht.out.2] at Hu Hr
  cases hsg : sg (bs s) with
  | none =>
    have Hsg := Lib.hid hsg; clear hsg
    go_enter Tryd.func4, Tryd.ntmps4
    go_wp2_with fail
    refine (lives3_any _ HT.out).mono ?_
    rintro e w1 ⟨rfl, hb1⟩
    have HT1 := Lib.hid (HT.out.below hb1 (Nat.le_refl _))
    have HA1 := Lib.hid ((HA.out.below hb1).more hb1.size)
    go_wp2_with fail
    refine (rsigns_none s _ (by omega) Hsg.out).mono ?_
    rintro e w2 ⟨rfl, hb2⟩
    have HT2 := Lib.hid (HT1.out.below hb2 (Nat.le_refl _))
    have HA2 := Lib.hid ((HA1.out.below hb2).more hb2.size)
    go_wp2_with fail
    refine (Hu.out _ HT2.out HA2.out).mono ?_
    rintro e w3 ⟨rfl, hb3⟩
    have HT3 := Lib.hid (HT2.out.below hb3 (Nat.le_refl _))
    have HA3 := Lib.hid ((HA2.out.below hb3).more hb3.size)
    go_wp2_with fail
    refine (Hr.out _ HA3.out).mono ?_
    rintro e w4 ⟨rfl, hb4⟩
    have HT4 := Lib.hid (HT3.out.below hb4 (Nat.le_refl _))
    go_wp2_with fail
    refine (right_as s false _ HT4.out (by omega) (by rw [Hsg.out]; rfl)).mono ?_
    rintro e w5 ⟨rfl, hb5⟩
    have HT5 := Lib.hid (HT4.out.below hb5 (Nat.le_refl _))
    go_wp2_with fail
    refine (count_none s _ HT5.out (by omega) Hsg.out).mono ?_
    rintro e w6 ⟨rfl, hb6⟩
    have HT6 := Lib.hid (HT5.out.below hb6 (Nat.le_refl _))
    go_wp2_with fail
    refine (signs_none s _ HT6.out (by omega) Hsg.out).mono ?_
    rintro e w7 ⟨rfl, hb7⟩
    go_wp2_with fail
    refine (same_toI none none 0 0 [] _ (fun h => absurd h (by simp [toI])) (fun h => absurd h (by simp [toI])) (by simp)).mono ?_
    rintro e w8 ⟨rfl, hb8⟩
    go_wp2
    go_ret
    exact ⟨rfl, hb1.trans ((hb2.trans ((hb3.trans ((hb4.trans ((hb5.trans ((hb6.trans ((hb7.trans (hb8.mono hb7.size)).mono hb6.size)).mono hb5.size)).mono hb4.size)).mono hb3.size)).mono hb2.size)).mono hb1.size)⟩
  | some ns =>
    have Hsg := Lib.hid hsg
    have hlen := sg_len hsg
    rw [bs_length] at hlen
    clear hsg
    go_enter Tryd.func4, Tryd.ntmps4
    go_wp2_with fail
    refine (lives3_any _ HT.out).mono ?_
    rintro e w1 ⟨rfl, hb1⟩
    have HT1 := Lib.hid (HT.out.below hb1 (Nat.le_refl _))
    have HA1 := Lib.hid ((HA.out.below hb1).more hb1.size)
    go_wp2_with fail
    refine (rsigns_some s ns _ (by omega) Hsg.out).mono ?_
    rintro e w2 ⟨B, d, rfl, hB, hb2⟩
    have HB := Lib.hid hB; clear hB
    have HT2 := Lib.hid (HT1.out.below hb2 (Nat.le_refl _))
    have HA2 := Lib.hid ((HA1.out.below hb2).more hb2.size)
    go_wp2_with fail
    refine (Hu.out _ HT2.out HA2.out).mono ?_
    rintro e w3 ⟨rfl, hb3⟩
    have HT3 := Lib.hid (HT2.out.below hb3 (Nat.le_refl _))
    have HA3 := Lib.hid ((HA2.out.below hb3).more hb3.size)
    go_wp2_with fail
    refine (Hr.out _ HA3.out).mono ?_
    rintro e w4 ⟨rfl, hb4⟩
    have HT4 := Lib.hid (HT3.out.below hb4 (Nat.le_refl _))
    go_wp2_with fail
    refine (right_as s true _ HT4.out (by omega) (by rw [Hsg.out]; rfl)).mono ?_
    rintro e w5 ⟨rfl, hb5⟩
    have HT5 := Lib.hid (HT4.out.below hb5 (Nat.le_refl _))
    go_wp2_with fail
    refine (count_some s ns _ HT5.out (by omega) Hsg.out).mono ?_
    rintro e w6 ⟨rfl, hb6⟩
    have HT6 := Lib.hid (HT5.out.below hb6 (Nat.le_refl _))
    go_wp2_with fail
    refine (signs_some s ns _ HT6.out (by omega) Hsg.out).mono ?_
    rintro e w7 ⟨C, d2, rfl, hC, hb7⟩
    have HC := Lib.hid hC; clear hC
    have Hb : Hid (Below w2.heap.size w2 w7) := hb3.trans ((hb4.trans ((hb5.trans ((hb6.trans (hb7.mono hb6.size)).mono hb5.size)).mono hb4.size)).mono hb3.size)
    have HB7 := Lib.hid ((HB.out.below Hb.out).more Hb.out.size)
    go_wp2_with fail
    refine (same_toI C B d2 d ns _ HC.out HB7.out (by omega)).mono ?_
    rintro e w8 ⟨rfl, hb8⟩
    go_wp2
    go_ret
    exact ⟨rfl, hb1.trans ((hb2.trans ((Hb.out.trans (hb8.mono Hb.out.size)).mono hb2.size)).mono hb1.size)⟩

theorem walk (s : ByteArray) (a : Option Addr) (len cap : Nat) (zs : List Int) (w : World) (hs : s.size ≤ maxLen) (w0 : IntsIn .i64 w a len cap zs) (hL : laidMetH Tryd.prog Rows.utfTextsRow.laid w) :
    Calls Tryd.prog 4 #[.string s, .slice a len cap] w fun e w' => e = .returned (.bool true) ∧ Below w.heap.size w w' := by
  obtain ⟨ns, rfl, hA⟩ := ints_of w0
  refine walk_t s a cap ns w hs ?_ hA (utab_of (by kernel_rfl) (by repeat (first | exact List.Mem.head _ | apply List.Mem.tail)) (by repeat (first | exact List.Mem.head _ | apply List.Mem.tail)) hL)
  rcases w0 with ⟨_, h, _⟩ | ⟨_, _, h1, h2, _⟩
  · rw [h]; exact Nat.zero_le _
  · exact Nat.le_trans h1 h2

theorem own : ownKnob Tryd.prog.godebug = none := by kernel_rfl
theorem laidOut : laidOutB Tryd.prog = true := by kernel_rfl
theorem door_met (os : Os) (args : Array Value) : laidMetH Tryd.prog Rows.utfTextsRow.laid ((World.doorLaid Tryd.prog 19 os).forCall (fun _ _ => 0) ⟨#[], args, []⟩).memory :=
  laidMetH_of_parts3 (fuel := 8) (laidMet_of_run' 8 (by kernel_rfl) (by kernel_rfl)) (by kernel_rfl) (by kernel_rfl)
set_option maxRecDepth 100000 in
theorem lifted (os : Os) (started : os.Started) (H : Type) (enc : TypeId × Value → H) :
    ReturnsInHanded {} Tryd.checked os 4 .any (fun w args => (Rows.utfTextsSpec.pre enc Tryd.prog Tryd.f4 [] false w args ∧ laidMetH Tryd.prog Rows.utfTextsRow.laid w) ∧ sizedMet enc Tryd.prog Tryd.f4 (OpenSpec.ofChange Rows.utfTextsSpec) false w args)
      (Rows.utfTextsSpec.post enc Tryd.prog Tryd.f4 false true false false) := by
  refine returnsInHanded_of_change_and (C := Tryd.checked) (X := fun w _ => laidMetH Tryd.prog Rows.utfTextsRow.laid w) (fun _ _ _ hh h => h.of_heap hh) own started (by kernel_rfl) Tryd.func4
    (ChangeSpec.witness_shaped (enc := enc) (C := Tryd.checked) (os := os) (X := fun w _ => laidMetH Tryd.prog Rows.utfTextsRow.laid w) false (World.doorLaid Tryd.prog 19 os) #[.string ByteArray.empty, .slice none 0 0] 8 rfl (World.shaped_of_RefB (by kernel_rfl) (by kernel_rfl)) (by kernel_rfl) (by kernel_rfl) (by kernel_rfl) (door_met os _)) ?_
  intro W base args ds gs before hval0 hW hcnd _ hL _
  have hval : ∀ (j : Nat) t v, Tryd.f4.params[j]? = some t → args[j]? = some v → Value.okWide Tryd.prog W .any base t v := hval0
  have hW' := hW
  obtain ⟨p, q, hA0, hV, rfl, hfz, hnd⟩ := hW
  have hA : DataW.TrodAll enc Tryd.prog W 0 (fun _ => true) true Tryd.f4.params.toList args.toList ds p := hA0
  rw [Tryd.params4] at hA hval
  obtain ⟨v0, vs0, d0, ds0, p0, q0, hargs, rfl, rfl, h0, r0⟩ := trodAll_cons hA
  obtain ⟨v1, vs1, d1, ds1, p1, q1, rfl, rfl, rfl, h1, r1⟩ := trodAll_cons r0
  obtain ⟨rfl, rfl, rfl⟩ := trodAll_nil r1
  obtain rfl : args = #[v0, v1] := by cases args; simp_all
  obtain ⟨rfl, rfl⟩ := trodVars_none hV
  obtain ⟨a0, rfl, rfl, rfl, w0⟩ := open_string Tryd.underlying9 (hval 0 9 v0 rfl rfl) h0
  obtain ⟨a1, len1, cap1, rfl⟩ := okWide_slice Tryd.underlying30 (hval 1 30 v1 rfl rfl)
  have k1 := h1
  have lt1 : ∀ x ∈ p1, x.block < W.heap.size := by obtain ⟨m, hm⟩ := k1; exact DataW.trod_lt m _ _ _ hm
  obtain ⟨z1, w1⟩ : ∃ zs, IntsIn .i64 W a1 len1 cap1 zs := by
    obtain ⟨fuel, hf⟩ := h1
    rcases open_ints Tryd.underlying30 Tryd.underlying3 (by kernel_rfl) hf with ⟨hcs, _⟩ | ⟨x, l, c, zs, hcs, _, hl, hm, hz, _, hcell, hwz⟩
    · simp [Value.cells] at hcs
      obtain ⟨rfl, rfl, rfl⟩ := hcs
      exact ⟨[], .inl ⟨rfl, rfl, rfl, rfl⟩⟩
    · simp [Value.cells] at hcs
      obtain ⟨rfl, rfl, rfl⟩ := hcs
      exact ⟨zs, .inr ⟨_, rfl, hl, hm, by simpa using hz, hcell, hwz⟩⟩
  clear hA0 hval0
  refine (walk a0 a1 len1 cap1 z1 W w0 w1 hL).mono fun e W' ⟨he, bel⟩ => ?_
  subst he
  exact ⟨_, rfl, _, _, _, [], _, [], hW', trodAll_mk1 (shut_bool Tryd.underlying4 _), (trodAll_cons_mk (shut_string Tryd.underlying9 w0) (trodAll_cons_mk (Below.trod laidOut (by kernel_rfl) (of_decide_eq_true (by kernel_rfl)) k1 bel lt1) trodAll_mk0)), rfl, bel.frame _, fun h => by cases h⟩

theorem over : Rows.UtfTextsSaid :=
  OpenClaim.holds_of_wide 4 Tryd.f4 rfl rfl rfl rfl rfl rfl rfl ⟨rfl, rfl, rfl, rfl, rfl⟩ rfl rfl rfl rfl rfl (by kernel_rfl) Tryd.func4 (by kernel_rfl)
    (of_decide_eq_true (by kernel_rfl)) (by unfold Func.isWrapper; first | (rw [if_pos (by decide +kernel)]; kernel_rfl) | (rw [if_neg (by decide +kernel)]; exact ⟨rfl, rfl⟩))
    (fun os started H enc _ => lifted os started H enc)

/-- the given statement: the card -/
theorem proved : Rows.UtfTextsCardSaid :=
  Claim7.holds_tied_plain_at .later [] [.data, .data] true (true, "8d6e73788167e2eb6fee37b266e35e402d40bbf6aa90e2d0210f42c6b14e2852") false
    over (fun _ h => by cases h) (by kernel_rfl) (fun _ h => by cases h) utfTexts_row_tie rfl ⟨rfl, rfl⟩ (by kernel_rfl) rfl
    (fun f fn hf hfn => by
      obtain rfl : f = 4 := Option.some.inj ((show Tryd.prog.funcNamed "haulage/haulagelaw03.UtfTexts" = some 4 by kernel_rfl).symm.trans hf) |>.symm
      obtain rfl : fn = Tryd.f4 := (Option.some.inj (Tryd.func4.symm.trans hfn)).symm
      exact ⟨by kernel_rfl, fun j t ht => by
        rw [Tryd.params4] at ht
        have hm : t ∈ [9, 30] := by simpa using Array.mem_of_getElem? ht
        have hall : ([9, 30].all fun u => !Tryd.prog.wantsStandIn u) = true := by kernel_rfl
        exact (show Tryd.prog.wantsStandIn t = false by simpa using List.all_eq_true.1 hall t hm)⟩)
    (by kernel_rfl)
#print axioms proved
end Go.Proofs.YtmfaeahpcoonaaaDoor.utfTexts
