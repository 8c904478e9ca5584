/-
  SortkeyOrders: for all two slices of values the law returns true: keys stand as their values do, also those of several one behind the other. No condition but that the two tables of package utf read as the program's text lays them (tied by the card).
-/
import Derived.Test.YtbbdmphclnnejaaDoorSkLivesC
import Derived.Test.YtbbdmphclnnejaaDoorSkRefOfC
import Derived.Test.YtbbdmphclnnejaaDoorSkRefOrdC
import Derived.Test.YtbbdmphclnnejaaDoorTie
import Derived.Test.YtbbdmphclnnejaaDoorCards
import Derived.ProofKit
import Derived.OpenShut
import Derived.ShutString
import Derived.ChangeOld
import Derived.LaidMore
import Derived.SevenTiedAt
namespace Go.Proofs.YtbbdmphclnnejaaDoor.sortkeyOrders
open Go.ChangeShapes Go.WideShapes Go.ChangeAt Go.RowKit
open Go.ChangeMaps (open_string shut_string)

set_option maxRecDepth 100000 in
set_option maxHeartbeats 800000 in
theorem walk_t (A A2 : Option Addr) (c c2 : Nat) (a b : List Vb) (w : World) (ht : UTab w) (hl : a.length ≤ maxLen) (hl2 : b.length ≤ maxLen) (hA : ValsAt w w.heap.size A a) (hA2 : ValsAt w w.heap.size A2 b) (hi : ∀ v ∈ vls a, in64 v) (hi2 : ∀ v ∈ vls b, in64 v) :
    Calls Tryd.prog 6 #[.slice A a.length c, .slice A2 b.length c2] w fun e w' => e = .returned (.bool true) ∧ Below w.heap.size w w' := by
  have HT := Lib.hid ht; clear ht
  have HA := Lib.hid hA; clear hA
  have HA2 := Lib.hid hA2; clear hA2
  have HI := Lib.hid hi; clear hi
  have HI2 := Lib.hid hi2; clear hi2
  have HF := Lib.hid (fun w hA => few_any A c a w hA hl)
  have HF2 := Lib.hid (fun w hA => few_any A2 c2 b w hA hl2)
  clear hl hl2
  cases hf : few a
  · rw [hf] at HF
    clear hf
    go_enter Tryd.func6, Tryd.ntmps6
    go_wp2_with fail
    refine (lives7_any _ HT.out).mono ?_
    rintro e w1 ⟨rfl, hb1⟩
    go_wp2_with fail
    refine (HF.out _ (HA.out.to hb1)).mono ?_
    rintro e w2 ⟨rfl, rfl⟩
    go_wp2_with fail
    go_ret
    exact ⟨rfl, hb1⟩
  rw [hf] at HF
  cases hf2 : few b
  · rw [hf2] at HF2
    clear hf hf2
    go_enter Tryd.func6, Tryd.ntmps6
    go_wp2_with fail
    refine (lives7_any _ HT.out).mono ?_
    rintro e w1 ⟨rfl, hb1⟩
    go_wp2_with fail
    refine (HF.out _ (HA.out.to hb1)).mono ?_
    rintro e w2 ⟨rfl, rfl⟩
    go_wp2_with fail
    refine (HF2.out _ (HA2.out.to hb1)).mono ?_
    rintro e w2 ⟨rfl, rfl⟩
    go_wp2_with fail
    go_ret
    exact ⟨rfl, hb1⟩
  rw [hf2] at HF2
  have HZ := Lib.hid (few_size hf)
  have HZ2 := Lib.hid (few_size hf2)
  have hl := HZ.out.1
  have hl2 := HZ2.out.1
  have HO := Lib.hid (fun w ht hA => sof_any A c a w ht hA (by omega) HI.out)
  have HO2 := Lib.hid (fun w ht hA => sof_any A2 c2 b w ht hA (by omega) HI2.out)
  clear hf hf2
  cases hr : allR (vls a)
  · rw [ofV_no hr] at HO
    clear hr
    cases hr2 : allR (vls b)
    · rw [ofV_no hr2] at HO2
      clear hr2
      go_enter Tryd.func6, Tryd.ntmps6
      go_wp2_with fail
      refine (lives7_any _ HT.out).mono ?_
      rintro e w1 ⟨rfl, hb1⟩
      go_wp2_with fail
      refine (HF.out _ (HA.out.to hb1)).mono ?_
      rintro e w2 ⟨rfl, rfl⟩
      go_wp2_with fail
      refine (HF2.out _ (HA2.out.to hb1)).mono ?_
      rintro e w2 ⟨rfl, rfl⟩
      go_wp2_with fail
      refine (HO.out _ (HT.out.below hb1 (Nat.le_refl _)) (HA.out.to hb1)).mono ?_
      rintro e w2 ⟨rfl, hb2⟩
      have hb2' := bthen hb1 hb2
      go_wp2_with fail
      refine (HO2.out _ (HT.out.below hb2' (Nat.le_refl _)) (HA2.out.to hb2')).mono ?_
      rintro e w3 ⟨rfl, hb3⟩
      have hb3' := bthen hb2' hb3
      go_wp2_with fail
      go_ret
      exact ⟨rfl, hb3'⟩
    · rw [ofV_yes hr2] at HO2
      clear hr2
      generalize (⟨(ofK (vls b)).toArray⟩ : ByteArray) = S2 at HO2
      go_enter Tryd.func6, Tryd.ntmps6
      go_wp2_with fail
      refine (lives7_any _ HT.out).mono ?_
      rintro e w1 ⟨rfl, hb1⟩
      go_wp2_with fail
      refine (HF.out _ (HA.out.to hb1)).mono ?_
      rintro e w2 ⟨rfl, rfl⟩
      go_wp2_with fail
      refine (HF2.out _ (HA2.out.to hb1)).mono ?_
      rintro e w2 ⟨rfl, rfl⟩
      go_wp2_with fail
      refine (HO.out _ (HT.out.below hb1 (Nat.le_refl _)) (HA.out.to hb1)).mono ?_
      rintro e w2 ⟨rfl, hb2⟩
      have hb2' := bthen hb1 hb2
      go_wp2_with fail
      refine (HO2.out _ (HT.out.below hb2' (Nat.le_refl _)) (HA2.out.to hb2')).mono ?_
      rintro e w3 ⟨rfl, hb3⟩
      have hb3' := bthen hb2' hb3
      go_wp2_with fail
      go_ret
      exact ⟨rfl, hb3'⟩
  · rw [ofV_yes hr] at HO
    cases hr2 : allR (vls b)
    · rw [ofV_no hr2] at HO2
      clear hr hr2
      generalize (⟨(ofK (vls a)).toArray⟩ : ByteArray) = S at HO
      cases hS : (S.toList == [])
      all_goals
        go_enter Tryd.func6, Tryd.ntmps6
        go_wp2_with fail
        refine (lives7_any _ HT.out).mono ?_
        rintro e w1 ⟨rfl, hb1⟩
        go_wp2_with fail
        refine (HF.out _ (HA.out.to hb1)).mono ?_
        rintro e w2 ⟨rfl, rfl⟩
        go_wp2_with fail
        refine (HF2.out _ (HA2.out.to hb1)).mono ?_
        rintro e w2 ⟨rfl, rfl⟩
        go_wp2_with fail
        refine (HO.out _ (HT.out.below hb1 (Nat.le_refl _)) (HA.out.to hb1)).mono ?_
        rintro e w2 ⟨rfl, hb2⟩
        have hb2' := bthen hb1 hb2
        go_wp2_with fail
        refine (HO2.out _ (HT.out.below hb2' (Nat.le_refl _)) (HA2.out.to hb2')).mono ?_
        rintro e w3 ⟨rfl, hb3⟩
        have hb3' := bthen hb2' hb3
        go_wp2_with fail
        go_ret
        exact ⟨rfl, hb3'⟩
    · rw [ofV_yes hr2] at HO2
      have HN := Lib.hid (fun w => rorder_any ⟨(ofK (vls a)).toArray⟩ ⟨(ofK (vls b)).toArray⟩ w (by rw [ba_size (ofK (vls a))]; have := ofK_len hr; rw [vls_length] at this; omega) (by rw [ba_size (ofK (vls b))]; have := ofK_len hr2; rw [vls_length] at this; omega))
      have HQ := Lib.hid (fun w hA hA2 => rord7_any A A2 c c2 a b w hA hA2 (by omega) (by omega) (fun v hv => Nat.le_trans (HZ.out.2 v hv) (by omega)) (fun v hv => Nat.le_trans (HZ2.out.2 v hv) (by omega)))
      have hord := of_ord (vls a) (vls b) (fun v hv => ⟨by unfold allR at hr; rw [List.all_eq_true] at hr; exact hr v hv, HI.out v hv⟩) (fun v hv => ⟨by unfold allR at hr2; rw [List.all_eq_true] at hr2; exact hr2 v hv, HI2.out v hv⟩)
      rw [bs_mk (ofK (vls a)), bs_mk (ofK (vls b)), hord] at HN
      clear hr hr2 hord
      generalize (⟨(ofK (vls a)).toArray⟩ : ByteArray) = S at HO HN
      generalize (⟨(ofK (vls b)).toArray⟩ : ByteArray) = S2 at HO2 HN
      generalize ordL (vls a) (vls b) = z at HN HQ
      go_enter Tryd.func6, Tryd.ntmps6
      go_wp2_with fail
      refine (lives7_any _ HT.out).mono ?_
      rintro e w1 ⟨rfl, hb1⟩
      go_wp2_with fail
      refine (HF.out _ (HA.out.to hb1)).mono ?_
      rintro e w2 ⟨rfl, rfl⟩
      go_wp2_with fail
      refine (HF2.out _ (HA2.out.to hb1)).mono ?_
      rintro e w2 ⟨rfl, rfl⟩
      go_wp2_with fail
      refine (HO.out _ (HT.out.below hb1 (Nat.le_refl _)) (HA.out.to hb1)).mono ?_
      rintro e w2 ⟨rfl, hb2⟩
      have hb2' := bthen hb1 hb2
      go_wp2_with fail
      refine (HO2.out _ (HT.out.below hb2' (Nat.le_refl _)) (HA2.out.to hb2')).mono ?_
      rintro e w3 ⟨rfl, hb3⟩
      have hb3' := bthen hb2' hb3
      go_wp2_with fail
      refine (HN.out _).mono ?_
      rintro e w4 ⟨rfl, hd4⟩
      have hb4' := bthen hb3' (hd4.below _)
      go_wp2_with fail
      refine (HQ.out _ (HA.out.to hb4') (HA2.out.to hb4')).mono ?_
      rintro e w5 ⟨rfl, hb5⟩
      go_wp2_with fail
      go_ret
      exact ⟨rfl, bthen hb4' hb5⟩

theorem walk (a : Option Addr) (len cap : Nat) (l : List Vb) (a2 : Option Addr) (len2 cap2 : Nat) (l2 : List Vb) (w : World) (w0 : ValsIn w a len l) (w1 : ValsIn w a2 len2 l2) (hL : laidMetH Tryd.prog Rows.sortkeyOrdersRow.laid w) :
    Calls Tryd.prog 6 #[.slice a len cap, .slice a2 len2 cap2] w fun e w' => e = .returned (.bool true) ∧ Below w.heap.size w w' := by
  obtain ⟨rfl, h1, h2, h3⟩ := w0
  obtain ⟨rfl, g1, g2, g3⟩ := w1
  have ht := utab_of (by kernel_rfl) (by repeat (first | exact List.Mem.head _ | apply List.Mem.tail)) (by repeat (first | exact List.Mem.head _ | apply List.Mem.tail)) hL
  exact walk_t a a2 cap cap2 l l2 w ht h1 g1 h2 g2 (in64_of h3) (in64_of g3)
theorem own : ownKnob Tryd.prog.godebug = none := by kernel_rfl
theorem laidOut : laidOutB Tryd.prog = true := by kernel_rfl
theorem door_met (os : Os) (args : Array Value) : laidMetH Tryd.prog Rows.sortkeyOrdersRow.laid ((World.doorLaid Tryd.prog 19 os).forCall (fun _ _ => 0) ⟨#[], args, []⟩).memory :=
  laidMetH_of_parts3 (fuel := 8) (laidMet_of_run' 8 (by kernel_rfl) (by kernel_rfl)) (by kernel_rfl) (by kernel_rfl)
set_option maxRecDepth 100000 in
theorem lifted (os : Os) (started : os.Started) (H : Type) (enc : TypeId × Value → H) :
    ReturnsInHanded {} Tryd.checked os 6 .any (fun w args => (Rows.sortkeyOrdersSpec.pre enc Tryd.prog Tryd.f6 [] false w args ∧ laidMetH Tryd.prog Rows.sortkeyOrdersRow.laid w) ∧ sizedMet enc Tryd.prog Tryd.f6 (OpenSpec.ofChange Rows.sortkeyOrdersSpec) false w args)
      (Rows.sortkeyOrdersSpec.post enc Tryd.prog Tryd.f6 false true false false) := by
  refine returnsInHanded_of_change_and (C := Tryd.checked) (X := fun w _ => laidMetH Tryd.prog Rows.sortkeyOrdersRow.laid w) (fun _ _ _ hh h => h.of_heap hh) own started (by kernel_rfl) Tryd.func6
    (ChangeSpec.witness_shaped (enc := enc) (C := Tryd.checked) (os := os) (X := fun w _ => laidMetH Tryd.prog Rows.sortkeyOrdersRow.laid w) false (World.doorLaid Tryd.prog 19 os) #[.slice none 0 0, .slice none 0 0] 8 rfl (World.shaped_of_RefB (by kernel_rfl) (by kernel_rfl)) (by kernel_rfl) (by kernel_rfl) (by kernel_rfl) (door_met os _)) ?_
  intro W base args ds gs before hval0 hW hcnd _ hL _
  have hval : ∀ (j : Nat) t v, Tryd.f6.params[j]? = some t → args[j]? = some v → Value.okWide Tryd.prog W .any base t v := hval0
  have hW' := hW
  obtain ⟨p, q, hA0, hV, rfl, hfz, hnd⟩ := hW
  have hA : DataW.TrodAll enc Tryd.prog W 0 (fun _ => true) true Tryd.f6.params.toList args.toList ds p := hA0
  rw [Tryd.params6] at hA hval
  obtain ⟨v0, vs0, d0, ds0, p0, q0, hargs, rfl, rfl, h0, r0⟩ := trodAll_cons hA
  obtain ⟨v1, vs1, d1, ds1, p1, q1, rfl, rfl, rfl, h1, r1⟩ := trodAll_cons r0
  obtain ⟨rfl, rfl, rfl⟩ := trodAll_nil r1
  obtain rfl : args = #[v0, v1] := by cases args; simp_all
  obtain ⟨rfl, rfl⟩ := trodVars_none hV
  obtain ⟨a0, len0, cap0, rfl⟩ := okWide_slice Tryd.underlying22 (hval 0 22 v0 rfl rfl)
  have k0 := h0
  have lt0 : ∀ x ∈ p0, x.block < W.heap.size := by obtain ⟨m, hm⟩ := k0; exact DataW.trod_lt m _ _ _ hm
  obtain ⟨z0, w0⟩ := valsIn_of h0
  obtain ⟨a1, len1, cap1, rfl⟩ := okWide_slice Tryd.underlying22 (hval 1 22 v1 rfl rfl)
  have k1 := h1
  have lt1 : ∀ x ∈ p1, x.block < W.heap.size := by obtain ⟨m, hm⟩ := k1; exact DataW.trod_lt m _ _ _ hm
  obtain ⟨z1, w1⟩ := valsIn_of h1
  clear hA0 hval0
  refine (walk a0 len0 cap0 z0 a1 len1 cap1 z1 W w0 w1 hL).mono fun e W' ⟨he, bel⟩ => ?_
  subst he
  exact ⟨_, rfl, _, _, _, [], _, [], hW', trodAll_mk1 (shut_bool Tryd.underlying4 _), (trodAll_cons_mk (Below.trod laidOut (by kernel_rfl) (of_decide_eq_true (by kernel_rfl)) k0 bel lt0) (trodAll_cons_mk (Below.trod laidOut (by kernel_rfl) (of_decide_eq_true (by kernel_rfl)) k1 bel lt1) trodAll_mk0)), rfl, bel.frame _, fun h => by cases h⟩

theorem over : Rows.SortkeyOrdersSaid :=
  OpenClaim.holds_of_wide 6 Tryd.f6 rfl rfl rfl rfl rfl rfl rfl ⟨rfl, rfl, rfl, rfl, rfl⟩ rfl rfl rfl rfl rfl (by kernel_rfl) Tryd.func6 (by kernel_rfl)
    (of_decide_eq_true (by kernel_rfl)) (by unfold Func.isWrapper; first | (rw [if_pos (by decide +kernel)]; kernel_rfl) | (rw [if_neg (by decide +kernel)]; exact ⟨rfl, rfl⟩))
    (fun os started H enc _ => lifted os started H enc)

/-- the given statement: the card -/
theorem proved : Rows.SortkeyOrdersCardSaid :=
  Claim7.holds_tied_plain_at .later [] [.data, .data] true (true, "009bbacac2e6be8747f5013c9a6cf81ed09579dfdc9dddcbc1ee5906f4c6a32b") false
    over (fun _ h => by cases h) (by kernel_rfl) (fun _ h => by cases h) sortkeyOrders_row_tie rfl ⟨rfl, rfl⟩ (by kernel_rfl) rfl
    (fun f fn hf hfn => by
      obtain rfl : f = 6 := Option.some.inj ((show Tryd.prog.funcNamed "haulage/haulagelaw07.SortkeyOrders" = some 6 by kernel_rfl).symm.trans hf) |>.symm
      obtain rfl : fn = Tryd.f6 := (Option.some.inj (Tryd.func6.symm.trans hfn)).symm
      exact ⟨by kernel_rfl, fun j t ht => by
        rw [Tryd.params6] at ht
        have hm : t ∈ [22, 22] := by simpa using Array.mem_of_getElem? ht
        have hall : ([22, 22].all fun u => !Tryd.prog.wantsStandIn u) = true := by kernel_rfl
        exact (show Tryd.prog.wantsStandIn t = false by simpa using List.all_eq_true.1 hall t hm)⟩)
    (by kernel_rfl)
#print axioms proved
end Go.Proofs.YtbbdmphclnnejaaDoor.sortkeyOrders
