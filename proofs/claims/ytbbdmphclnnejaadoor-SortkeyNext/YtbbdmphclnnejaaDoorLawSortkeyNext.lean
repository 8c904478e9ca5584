/-
  SortkeyNext: for all three strings the law returns true: the least string behind all that begin with one is what the page says; it is behind that, with whatever behind it; nothing ahead of it is. No condition but that the two tables of package utf read as the program's text lays them (tied by the card).
-/
import Derived.Test.YtbbdmphclnnejaaDoorSkLivesC
import Derived.Test.YtbbdmphclnnejaaDoorTie
import Derived.Test.YtbbdmphclnnejaaDoorCards
import Derived.ProofKit
import Derived.OpenShut
import Derived.ShutString
import Derived.ChangeOld
import Derived.LaidMore
import Derived.SevenTiedAt
namespace Go.Proofs.YtbbdmphclnnejaaDoor.sortkeyNext
open Go.ChangeShapes Go.WideShapes Go.ChangeAt Go.RowKit
open Go.ChangeMaps (open_string shut_string)

theorem long (s m o : ByteArray) (w : World) (hs : s.size ≤ maxLen) (hm : m.size ≤ maxLen) (ho : o.size ≤ maxLen) (ht : UTab w) (h : 100 < s.size ∨ 100 < m.size ∨ 100 < o.size) :
    Calls Tryd.prog 5 #[.string s, .string m, .string o] w fun e w' => e = .returned (.bool true) ∧ Below w.heap.size w w' := by
  unfold maxLen at hs hm ho
  have HT := Lib.hid ht; clear ht
  by_cases h1 : 100 < s.size
  · have d1 : decide (100 < (s.size : Int)) = true := by simp; omega
    go_enter Tryd.func5, Tryd.ntmps5
    go_wp2_with fail
    refine (lives7_any _ HT.out).mono ?_
    rintro e w1 ⟨rfl, hb1⟩
    go_wp2_with fail
    go_ret
    exact ⟨rfl, hb1⟩
  have d1 : decide (100 < (s.size : Int)) = false := by simp; omega
  by_cases h2 : 100 < m.size
  · have d2 : decide (100 < (m.size : Int)) = true := by simp; omega
    go_enter Tryd.func5, Tryd.ntmps5
    go_wp2_with fail
    refine (lives7_any _ HT.out).mono ?_
    rintro e w1 ⟨rfl, hb1⟩
    go_wp2_with fail
    go_ret
    exact ⟨rfl, hb1⟩
  have d2 : decide (100 < (m.size : Int)) = false := by simp; omega
  have d3 : decide (100 < (o.size : Int)) = true := by simp; omega
  go_enter Tryd.func5, Tryd.ntmps5
  go_wp2_with fail
  refine (lives7_any _ HT.out).mono ?_
  rintro e w1 ⟨rfl, hb1⟩
  go_wp2_with fail
  go_ret
  exact ⟨rfl, hb1⟩

set_option maxRecDepth 100000 in
set_option maxHeartbeats 800000 in
theorem short (s m o : ByteArray) (w : World) (hs : s.size ≤ 100) (hm : m.size ≤ 100) (ho : o.size ≤ 100) (ht : UTab w) :
    Calls Tryd.prog 5 #[.string s, .string m, .string o] w fun e w' => e = .returned (.bool true) ∧ Below w.heap.size w w' := by
  have HT := Lib.hid ht; clear ht
  have d1 : decide (100 < (s.size : Int)) = false := by simp; omega
  have d2 : decide (100 < (m.size : Int)) = false := by simp; omega
  have d3 : decide (100 < (o.size : Int)) = false := by simp; omega
  have HS := Lib.hid (fun w => snext_any s w (by omega))
  have HR := Lib.hid (fun w => rnext_any s w (by omega))
  cases hn : nxt (bs s) with
  | none =>
    rw [next_no hn] at HS HR
    clear hn
    go_enter Tryd.func5, Tryd.ntmps5
    go_wp2_with fail
    refine (lives7_any _ HT.out).mono ?_
    rintro e w1 ⟨rfl, hb1⟩
    go_wp2_with fail
    refine (HS.out _).mono ?_
    rintro e w2 ⟨rfl, hb2⟩
    go_wp2_with fail
    refine (HR.out _).mono ?_
    rintro e w3 ⟨rfl, hb3⟩
    go_wp2_with fail
    go_ret
    exact ⟨rfl, bthen (bthen hb1 hb2) hb3⟩
  | some t =>
    rw [next_yes hn] at HS HR
    have htl : t.length ≤ 101 := Nat.le_trans (nxt_len hn) (by rw [bs_length]; omega)
    have Hm := Lib.hid (fun w => rorder_any (s ++ m) ⟨t.toArray⟩ w (by rw [ByteArray.size_append]; omega) (by rw [ba_size t]; omega))
    have Ho := Lib.hid (fun w => rorder_any o ⟨t.toArray⟩ w (by omega) (by rw [ba_size t]; omega))
    have Hs := Lib.hid (fun w => rorder_any o s w (by omega) (by omega))
    have hadd := fun w' => run_string_add_sum (P := Tryd.prog) (w := w') s m (by omega)
    rw [bs_append, bs_mk t, nxt_above hn] at Hm
    rw [bs_mk t] at Ho
    have hor := nxt_least hn (bs o)
    have hbeg : (∃ r, bs o = bs s ++ r) → s.size ≤ o.size ∧ ((o.extract 0 s.size).toList == s.toList) = true := by
      rintro ⟨r, hr⟩
      refine ⟨?_, cmp_eq ?_⟩
      · rw [← bs_length, ← bs_length, hr, List.length_append]; omega
      · rw [bs_front, hr, ← bs_length, List.take_left]
    generalize (⟨t.toArray⟩ : ByteArray) = T at HS HR Hm Ho
    generalize ordN (bs o) t = X at Ho hor
    generalize ordN (bs o) (bs s) = Y at Hs hor
    have htot : 0 ≤ X ∨ (s.size ≤ o.size ∧ ((o.extract 0 s.size).toList == s.toList) = true) ∨ Y = -1 := by
      rcases hor with h | h | h
      · exact .inl h
      · exact .inr (.inl (hbeg h))
      · exact .inr (.inr h)
    clear hor hbeg hn htl
    by_cases hL : s.size ≤ o.size
    · have dL : decide ((s.size : Int) ≤ (o.size : Int)) = true := by simp; omega
      cases hq : ((o.extract 0 s.size).toList == s.toList)
      · by_cases hX : 0 ≤ X
        · have dX : decide (0 ≤ X) = true := by simp; omega
          clear htot
          go_enter Tryd.func5, Tryd.ntmps5
          go_wp2_with fail
          refine (lives7_any _ HT.out).mono ?_
          rintro e w1 ⟨rfl, hb1⟩
          go_wp2_with fail
          refine (HS.out _).mono ?_
          rintro e w2 ⟨rfl, hb2⟩
          go_wp2_with fail
          refine (HR.out _).mono ?_
          rintro e w3 ⟨rfl, hb3⟩
          go_wp2_with fail
          refine (Hm.out _).mono ?_
          rintro e w4 ⟨rfl, hd4⟩
          go_wp2_with fail
          refine (Ho.out _).mono ?_
          rintro e w5 ⟨rfl, hd5⟩
          go_wp2_with fail
          go_ret
          exact ⟨rfl, bthen (bthen (bthen (bthen hb1 hb2) hb3) (hd4.below _)) (hd5.below _)⟩
        · have dX : decide (0 ≤ X) = false := by simp; omega
          obtain rfl : Y = -1 := by
            rcases htot with h | ⟨_, h⟩ | h
            · omega
            · rw [hq] at h; cases h
            · exact h
          clear htot
          go_enter Tryd.func5, Tryd.ntmps5
          go_wp2_with fail
          refine (lives7_any _ HT.out).mono ?_
          rintro e w1 ⟨rfl, hb1⟩
          go_wp2_with fail
          refine (HS.out _).mono ?_
          rintro e w2 ⟨rfl, hb2⟩
          go_wp2_with fail
          refine (HR.out _).mono ?_
          rintro e w3 ⟨rfl, hb3⟩
          go_wp2_with fail
          refine (Hm.out _).mono ?_
          rintro e w4 ⟨rfl, hd4⟩
          go_wp2_with fail
          refine (Ho.out _).mono ?_
          rintro e w5 ⟨rfl, hd5⟩
          go_wp2_with fail
          refine (Hs.out _).mono ?_
          rintro e w6 ⟨rfl, hd6⟩
          go_wp2_with fail
          go_ret
          exact ⟨rfl, bthen (bthen (bthen (bthen (bthen hb1 hb2) hb3) (hd4.below _)) (hd5.below _)) (hd6.below _)⟩
      · by_cases hX : 0 ≤ X
        · have dX : decide (0 ≤ X) = true := by simp; omega
          clear htot
          go_enter Tryd.func5, Tryd.ntmps5
          go_wp2_with fail
          refine (lives7_any _ HT.out).mono ?_
          rintro e w1 ⟨rfl, hb1⟩
          go_wp2_with fail
          refine (HS.out _).mono ?_
          rintro e w2 ⟨rfl, hb2⟩
          go_wp2_with fail
          refine (HR.out _).mono ?_
          rintro e w3 ⟨rfl, hb3⟩
          go_wp2_with fail
          refine (Hm.out _).mono ?_
          rintro e w4 ⟨rfl, hd4⟩
          go_wp2_with fail
          refine (Ho.out _).mono ?_
          rintro e w5 ⟨rfl, hd5⟩
          go_wp2_with fail
          go_ret
          exact ⟨rfl, bthen (bthen (bthen (bthen hb1 hb2) hb3) (hd4.below _)) (hd5.below _)⟩
        · have dX : decide (0 ≤ X) = false := by simp; omega
          clear htot
          go_enter Tryd.func5, Tryd.ntmps5
          go_wp2_with fail
          refine (lives7_any _ HT.out).mono ?_
          rintro e w1 ⟨rfl, hb1⟩
          go_wp2_with fail
          refine (HS.out _).mono ?_
          rintro e w2 ⟨rfl, hb2⟩
          go_wp2_with fail
          refine (HR.out _).mono ?_
          rintro e w3 ⟨rfl, hb3⟩
          go_wp2_with fail
          refine (Hm.out _).mono ?_
          rintro e w4 ⟨rfl, hd4⟩
          go_wp2_with fail
          refine (Ho.out _).mono ?_
          rintro e w5 ⟨rfl, hd5⟩
          go_wp2_with fail
          go_ret
          exact ⟨rfl, bthen (bthen (bthen (bthen hb1 hb2) hb3) (hd4.below _)) (hd5.below _)⟩
    · have dL : decide ((s.size : Int) ≤ (o.size : Int)) = false := by simp; omega
      by_cases hX : 0 ≤ X
      · have dX : decide (0 ≤ X) = true := by simp; omega
        clear htot
        go_enter Tryd.func5, Tryd.ntmps5
        go_wp2_with fail
        refine (lives7_any _ HT.out).mono ?_
        rintro e w1 ⟨rfl, hb1⟩
        go_wp2_with fail
        refine (HS.out _).mono ?_
        rintro e w2 ⟨rfl, hb2⟩
        go_wp2_with fail
        refine (HR.out _).mono ?_
        rintro e w3 ⟨rfl, hb3⟩
        go_wp2_with fail
        refine (Hm.out _).mono ?_
        rintro e w4 ⟨rfl, hd4⟩
        go_wp2_with fail
        refine (Ho.out _).mono ?_
        rintro e w5 ⟨rfl, hd5⟩
        go_wp2_with fail
        go_ret
        exact ⟨rfl, bthen (bthen (bthen (bthen hb1 hb2) hb3) (hd4.below _)) (hd5.below _)⟩
      · have dX : decide (0 ≤ X) = false := by simp; omega
        obtain rfl : Y = -1 := by
          rcases htot with h | ⟨h, _⟩ | h
          · omega
          · omega
          · exact h
        clear htot
        go_enter Tryd.func5, Tryd.ntmps5
        go_wp2_with fail
        refine (lives7_any _ HT.out).mono ?_
        rintro e w1 ⟨rfl, hb1⟩
        go_wp2_with fail
        refine (HS.out _).mono ?_
        rintro e w2 ⟨rfl, hb2⟩
        go_wp2_with fail
        refine (HR.out _).mono ?_
        rintro e w3 ⟨rfl, hb3⟩
        go_wp2_with fail
        refine (Hm.out _).mono ?_
        rintro e w4 ⟨rfl, hd4⟩
        go_wp2_with fail
        refine (Ho.out _).mono ?_
        rintro e w5 ⟨rfl, hd5⟩
        go_wp2_with fail
        refine (Hs.out _).mono ?_
        rintro e w6 ⟨rfl, hd6⟩
        go_wp2_with fail
        go_ret
        exact ⟨rfl, bthen (bthen (bthen (bthen (bthen hb1 hb2) hb3) (hd4.below _)) (hd5.below _)) (hd6.below _)⟩

theorem walk (s m o : ByteArray) (w : World) (hs : s.size ≤ maxLen) (hm : m.size ≤ maxLen) (ho : o.size ≤ maxLen) (hL : laidMetH Tryd.prog Rows.sortkeyNextRow.laid w) :
    Calls Tryd.prog 5 #[.string s, .string m, .string o] w fun e w' => e = .returned (.bool true) ∧ Below w.heap.size w w' := by
  have ht := utab_of (by kernel_rfl) (by repeat (first | exact List.Mem.head _ | apply List.Mem.tail)) (by repeat (first | exact List.Mem.head _ | apply List.Mem.tail)) hL
  by_cases h : 100 < s.size ∨ 100 < m.size ∨ 100 < o.size
  · exact long s m o w hs hm ho ht h
  · exact short s m o w (by omega) (by omega) (by omega) ht
theorem own : ownKnob Tryd.prog.godebug = none := by kernel_rfl
theorem laidOut : laidOutB Tryd.prog = true := by kernel_rfl
theorem door_met (os : Os) (args : Array Value) : laidMetH Tryd.prog Rows.sortkeyNextRow.laid ((World.doorLaid Tryd.prog 19 os).forCall (fun _ _ => 0) ⟨#[], args, []⟩).memory :=
  laidMetH_of_parts3 (fuel := 8) (laidMet_of_run' 8 (by kernel_rfl) (by kernel_rfl)) (by kernel_rfl) (by kernel_rfl)
set_option maxRecDepth 100000 in
theorem lifted (os : Os) (started : os.Started) (H : Type) (enc : TypeId × Value → H) :
    ReturnsInHanded {} Tryd.checked os 5 .any (fun w args => (Rows.sortkeyNextSpec.pre enc Tryd.prog Tryd.f5 [] false w args ∧ laidMetH Tryd.prog Rows.sortkeyNextRow.laid w) ∧ sizedMet enc Tryd.prog Tryd.f5 (OpenSpec.ofChange Rows.sortkeyNextSpec) false w args)
      (Rows.sortkeyNextSpec.post enc Tryd.prog Tryd.f5 false true false false) := by
  refine returnsInHanded_of_change_and (C := Tryd.checked) (X := fun w _ => laidMetH Tryd.prog Rows.sortkeyNextRow.laid w) (fun _ _ _ hh h => h.of_heap hh) own started (by kernel_rfl) Tryd.func5
    (ChangeSpec.witness_shaped (enc := enc) (C := Tryd.checked) (os := os) (X := fun w _ => laidMetH Tryd.prog Rows.sortkeyNextRow.laid w) false (World.doorLaid Tryd.prog 19 os) #[.string ByteArray.empty, .string ByteArray.empty, .string ByteArray.empty] 8 rfl (World.shaped_of_RefB (by kernel_rfl) (by kernel_rfl)) (by kernel_rfl) (by kernel_rfl) (by kernel_rfl) (door_met os _)) ?_
  intro W base args ds gs before hval0 hW hcnd _ hL _
  have hval : ∀ (j : Nat) t v, Tryd.f5.params[j]? = some t → args[j]? = some v → Value.okWide Tryd.prog W .any base t v := hval0
  have hW' := hW
  obtain ⟨p, q, hA0, hV, rfl, hfz, hnd⟩ := hW
  have hA : DataW.TrodAll enc Tryd.prog W 0 (fun _ => true) true Tryd.f5.params.toList args.toList ds p := hA0
  rw [Tryd.params5] at hA hval
  obtain ⟨v0, vs0, d0, ds0, p0, q0, hargs, rfl, rfl, h0, r0⟩ := trodAll_cons hA
  obtain ⟨v1, vs1, d1, ds1, p1, q1, rfl, rfl, rfl, h1, r1⟩ := trodAll_cons r0
  obtain ⟨v2, vs2, d2, ds2, p2, q2, rfl, rfl, rfl, h2, r2⟩ := trodAll_cons r1
  obtain ⟨rfl, rfl, rfl⟩ := trodAll_nil r2
  obtain rfl : args = #[v0, v1, v2] := by cases args; simp_all
  obtain ⟨rfl, rfl⟩ := trodVars_none hV
  obtain ⟨a0, rfl, rfl, rfl, w0⟩ := open_string Tryd.underlying9 (hval 0 9 v0 rfl rfl) h0
  obtain ⟨a1, rfl, rfl, rfl, w1⟩ := open_string Tryd.underlying9 (hval 1 9 v1 rfl rfl) h1
  obtain ⟨a2, rfl, rfl, rfl, w2⟩ := open_string Tryd.underlying9 (hval 2 9 v2 rfl rfl) h2
  clear hA0 hval0
  refine (walk a0 a1 a2 W w0 w1 w2 hL).mono fun e W' ⟨he, bel⟩ => ?_
  subst he
  exact ⟨_, rfl, _, _, _, [], _, [], hW', trodAll_mk1 (shut_bool Tryd.underlying4 _), (trodAll_cons_mk (shut_string Tryd.underlying9 w0) (trodAll_cons_mk (shut_string Tryd.underlying9 w1) (trodAll_cons_mk (shut_string Tryd.underlying9 w2) trodAll_mk0))), rfl, bel.frame _, fun h => by cases h⟩

theorem over : Rows.SortkeyNextSaid :=
  OpenClaim.holds_of_wide 5 Tryd.f5 rfl rfl rfl rfl rfl rfl rfl ⟨rfl, rfl, rfl, rfl, rfl⟩ rfl rfl rfl rfl rfl (by kernel_rfl) Tryd.func5 (by kernel_rfl)
    (of_decide_eq_true (by kernel_rfl)) (by unfold Func.isWrapper; first | (rw [if_pos (by decide +kernel)]; kernel_rfl) | (rw [if_neg (by decide +kernel)]; exact ⟨rfl, rfl⟩))
    (fun os started H enc _ => lifted os started H enc)

/-- the given statement: the card -/
theorem proved : Rows.SortkeyNextCardSaid :=
  Claim7.holds_tied_plain_at .later [] [.data, .data] true (true, "009bbacac2e6be8747f5013c9a6cf81ed09579dfdc9dddcbc1ee5906f4c6a32b") false
    over (fun _ h => by cases h) (by kernel_rfl) (fun _ h => by cases h) sortkeyNext_row_tie rfl ⟨rfl, rfl⟩ (by kernel_rfl) rfl
    (fun f fn hf hfn => by
      obtain rfl : f = 5 := Option.some.inj ((show Tryd.prog.funcNamed "haulage/haulagelaw07.SortkeyNext" = some 5 by kernel_rfl).symm.trans hf) |>.symm
      obtain rfl : fn = Tryd.f5 := (Option.some.inj (Tryd.func5.symm.trans hfn)).symm
      exact ⟨by kernel_rfl, fun j t ht => by
        rw [Tryd.params5] at ht
        have hm : t ∈ [9, 9, 9] := by simpa using Array.mem_of_getElem? ht
        have hall : ([9, 9, 9].all fun u => !Tryd.prog.wantsStandIn u) = true := by kernel_rfl
        exact (show Tryd.prog.wantsStandIn t = false by simpa using List.all_eq_true.1 hall t hm)⟩)
    (by kernel_rfl)
#print axioms proved
end Go.Proofs.YtbbdmphclnnejaaDoor.sortkeyNext
