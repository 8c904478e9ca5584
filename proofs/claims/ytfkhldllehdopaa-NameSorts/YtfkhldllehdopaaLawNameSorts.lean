/-
  NameSorts: for every slice of strings the law returns true: its distinct elements in increasing order are what the document says. No condition.
-/
import Derived.Test.YtfkhldllehdopaaNameLivesC
import Derived.Test.YtfkhldllehdopaaNameRefSortC
import Derived.ProofKit
import Derived.OpenShut
import Derived.ShutString
import Derived.ChangeOld
import Derived.SliceStrings
namespace Go.Proofs.Ytfkhldllehdopaa.nameSorts
open Go.ChangeShapes Go.WideShapes Go.ChangeAt Go.RowKit
open Go.ChangeMaps (open_string shut_string)

set_option maxRecDepth 100000 in
set_option maxHeartbeats 800000 in
theorem walk_t (A : Option Addr) (c : Nat) (zs : List ByteArray) (w : World) (hl : zs.length ≤ maxLen) (hA : StrsAt w w.heap.size A zs) (hz : ∀ s ∈ zs, s.size ≤ maxLen) :
    Calls Try.prog 4 #[.slice A zs.length c] w fun e w' => e = .returned (.bool true) ∧ Below w.heap.size w w' := by
  unfold maxLen at hl
  have HA := Lib.hid hA; clear hA
  have HZ := Lib.hid hz; clear hz
  by_cases h2 : 30 < zs.length
  · have hd2 : decide (30 < (zs.length : Int)) = true := by simp; omega
    go_enter Try.func4, Try.ntmps4
    go_wp2_with (go_at_call 8; refine (lives4_any _).mono ?_; rintro e w1 ⟨rfl, hb1⟩)
    go_ret
    exact ⟨rfl, hb1⟩
  have hd2 : decide (30 < (zs.length : Int)) = false := by simp; omega
  go_enter Try.func4, Try.ntmps4
  go_wp2_with fail
  refine (lives4_any _).mono ?_
  rintro e w1 ⟨rfl, hb1⟩
  have hs1 := hb1.size
  have HA1 : Hid (StrsAt w1 w1.heap.size A zs) := HA.out.to hb1
  go_wp2_with fail
  go_loop [3] (fun i => ∃ k : Nat, k ≤ zs.length ∧ i = .int .i64 k ∧ Hid (∀ j (hj : j < zs.length), j < k → zs[j].size ≤ 60)) (fun i => zs.length - (intOf i).toNat)
  case atStart => exact ⟨0, by omega, rfl, fun j _ h => absurd h (by omega)⟩
  case round =>
    obtain ⟨k, hk, rfl, hall⟩ := hrel
    by_cases hlt : k < zs.length
    · obtain ⟨b, off, rfl, hbB, hc⟩ := HA1.out (by omega)
      have gc : w1.cell? ⟨b, off + k, none⟩ = some (.string zs[k]) := hc k hlt
      clear hc
      by_cases h60 : 60 < zs[k].size
      · generalize zs[k] = x at gc h60
        have d1 : decide (60 < (x.size : Int)) = true := by simp; omega
        go_wp2
        go_ret
        exact ⟨rfl, hb1⟩
      · have Hm : Hid (∀ j (hj : j < zs.length), j < k + 1 → zs[j].size ≤ 60) := fun j hj h => by
          by_cases e : j = k
          · subst e; omega
          · exact hall.out j hj (by omega)
        generalize zs[k] = x at gc h60
        have d1 : decide (60 < (x.size : Int)) = false := by simp; omega
        go_wp2
        go_round
        case rel => exact ⟨k + 1, by omega, by go_num, Hm.out⟩
        case measure => simp [intOf]; omega
    · have Hs : Hid (∀ z ∈ zs, z.size ≤ 1000000) := fun z hz => by
        obtain ⟨j, hj, rfl⟩ := List.mem_iff_getElem.1 hz
        have := hall.out j hj (by omega)
        omega
      go_wp2_with fail
      refine (sorted_any A c zs w1 HA1.out (by omega) Hs.out).mono ?_
      rintro e w2 ⟨A2, c2, l2, rfl, hl2, hS2, hA2, hb2⟩
      have HA2 := Lib.hid hA2; clear hA2
      have HAz : Hid (StrsAt w2 w2.heap.size A zs) := HA1.out.to hb2
      have Hb2 := Lib.hid hb2; clear hb2
      have HS2 := Lib.hid hS2; clear hS2
      go_wp2_with fail
      refine (rsorted_any A c zs w2 HAz.out (by omega) Hs.out).mono ?_
      rintro e w3 ⟨A3, c3, l3, rfl, _, hS3, hA3, hb3⟩
      obtain rfl : l2 = l3 := HS2.out.unique hS3
      have hlen : l2.length ≤ 1000000 := by omega
      have HC := Lib.hid (same4_any A2 A3 c2 c3 l2 w3 (HA2.out.to hb3) hA3 hlen)
      have Hb3 := Lib.hid hb3; clear hb3 hS3 hA3
      go_wp2_with fail
      refine HC.out.mono ?_
      rintro e w4 ⟨rfl, hb4⟩
      go_wp2
      go_ret
      exact ⟨rfl, hb1.trans ((Hb2.out.trans ((Hb3.out.trans (hb4.mono Hb3.out.size)).mono Hb2.out.size)).mono hs1)⟩
theorem walk (a : Option Addr) (len cap : Nat) (ss : List ByteArray) (w : World) (w0 : StrsIn w a len cap ss) :
    Calls Try.prog 4 #[.slice a len cap] w fun e w' => e = .returned (.bool true) ∧ Below w.heap.size w w' := by
  obtain ⟨zs, rfl, h1, h2, h3⟩ := strs_of w0
  exact walk_t a cap zs w h3 h1 h2
theorem own : ownKnob Try.prog.godebug = none := by kernel_rfl
theorem laidOut : laidOutB Try.prog = true := by kernel_rfl
set_option maxRecDepth 100000 in
theorem lifted (os : Os) (started : os.Started) (H : Type) (enc : TypeId × Value → H) :
    ReturnsInHanded {} Try.checked os 4 .any (Rows.nameSortsSpec.pre6 enc Try.prog Try.f4 Rows.nameSortsRow.domain false) (Rows.nameSortsSpec.post enc Try.prog Try.f4 false true false false) := by
  refine returnsInHanded_of_change (C := Try.checked) own started (by kernel_rfl) Try.func4
    (ChangeSpec.witness6 (enc := enc) (C := Try.checked) false ⟨#[], #[.slice none 0 0], []⟩ 8 (by kernel_rfl) (by kernel_rfl) (by kernel_rfl) (by kernel_rfl)) ?_
  intro W base args ds gs before hval0 hW hcnd _
  have hval : ∀ (j : Nat) t v, Try.f4.params[j]? = some t → args[j]? = some v → Value.okWide Try.prog W .any base t v := hval0
  have hW' := hW
  obtain ⟨p, q, hA0, hV, rfl, hfz, hnd⟩ := hW
  have hA : DataW.TrodAll enc Try.prog W 0 (fun _ => true) true Try.f4.params.toList args.toList ds p := hA0
  rw [Try.params4] at hA hval
  obtain ⟨v0, vs0, d0, ds0, p0, q0, hargs, rfl, rfl, h0, r0⟩ := trodAll_cons hA
  obtain ⟨rfl, rfl, rfl⟩ := trodAll_nil r0
  obtain rfl : args = #[v0] := by cases args; simp_all
  obtain ⟨rfl, rfl⟩ := trodVars_none hV
  obtain ⟨a0, len0, cap0, rfl⟩ := okWide_slice Try.underlying27 (hval 0 27 v0 rfl rfl)
  have k0 := h0
  have lt0 : ∀ x ∈ p0, x.block < W.heap.size := by obtain ⟨m, hm⟩ := k0; exact DataW.trod_lt m _ _ _ hm
  obtain ⟨z0, w0⟩ : ∃ zs, StrsIn W a0 len0 cap0 zs := by
    obtain ⟨fuel, hf⟩ := h0
    rcases open_strings Try.underlying27 Try.underlying9 (by kernel_rfl) hf with ⟨hcs, _⟩ | ⟨x, l, c, zs, hcs, _, hl, hm, hz, _, hcell, hwz⟩
    · simp [Value.cells] at hcs
      obtain ⟨rfl, rfl, rfl⟩ := hcs
      exact ⟨[], .inl ⟨rfl, rfl, rfl, rfl⟩⟩
    · simp [Value.cells] at hcs
      obtain ⟨rfl, rfl, rfl⟩ := hcs
      exact ⟨zs, .inr ⟨_, rfl, hl, hm, by simpa using hz, hcell, hwz⟩⟩
  clear hA0 hval0
  refine (walk a0 len0 cap0 z0 W w0).mono fun e W' ⟨he, bel⟩ => ?_
  subst he
  exact ⟨_, rfl, _, _, _, [], _, [], hW', trodAll_mk1 (shut_bool Try.underlying4 _), (trodAll_cons_mk (Below.trod laidOut (by kernel_rfl) (of_decide_eq_true (by kernel_rfl)) k0 bel lt0) trodAll_mk0), rfl, bel.frame _, fun h => by cases h⟩

theorem over : Rows.nameSortsRow.holds Try.pinned (OpenSpec.ofChange Rows.nameSortsSpec) :=
  OpenClaim.holds_of_wide 4 Try.f4 rfl rfl rfl rfl rfl rfl rfl ⟨rfl, rfl, rfl, rfl, rfl⟩ rfl rfl rfl rfl rfl (by kernel_rfl) Try.func4 (by kernel_rfl)
    (of_decide_eq_true (by kernel_rfl)) (by unfold Func.isWrapper; first | (rw [if_pos (by decide +kernel)]; kernel_rfl) | (rw [if_neg (by decide +kernel)]; exact ⟨rfl, rfl⟩))
    (fun os started H enc _ => lifted os started H enc)

/-- the given statement -/
theorem proved : Rows.NameSortsSaid := over
#print axioms proved
end Go.Proofs.Ytfkhldllehdopaa.nameSorts
