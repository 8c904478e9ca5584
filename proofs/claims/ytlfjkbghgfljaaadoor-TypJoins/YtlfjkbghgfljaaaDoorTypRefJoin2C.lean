/-
  The contract of the document's own Join: its walk.
-/
import Derived.Test.YtlfjkbghgfljaaaDoorTypRefJoinC
namespace Go.Proofs.YtlfjkbghgfljaaaDoor
open Go.RowKit

set_option maxRecDepth 100000 in
set_option maxHeartbeats 25600000 in
theorem trjoin_any (k m k2 m2 : Int) (w : World) : Calls Tryd.prog 17 #[TT k m, TT k2 m2] w fun e w' => e = .returned (joinR k m k2 m2) ∧ Below w.heap.size w w' := by
  have HR1 := Lib.hid (fun w => trright_any k m w)
  have HR2 := Lib.hid (fun w => trright_any k2 m2 w)
  cases ha : rightT k m
  · have Hv := Lib.hid (joinR_no k m k2 m2 (.inl ha))
    rw [ha] at HR1
    go_enter Tryd.func17, Tryd.ntmps17
    go_wp2_with fail
    refine (HR1.out _).mono ?_
    rintro e w1 ⟨rfl, hb1⟩
    have HB := Lib.hid ((BxJ.new w _ _ _ _ _ _ _ _ _).step hb1)
    clear hb1
    obtain ⟨⟨c0, c1, _⟩, ⟨d0, d1, _⟩, ⟨e0, e1, f0, f1⟩, _, hb'⟩ := HB.out
    go_wp2_with fail
    try simp only [Exit.inBlock, Exit.then]
    refine bodyPost_ret (results_t2 rfl _ _ rfl HB.out.2.2.1.set2) rfl ?_
    exact ⟨by rw [Hv.out]; rfl, by go_grown⟩
  cases hbb : rightT k2 m2
  · have Hv := Lib.hid (joinR_no k m k2 m2 (.inr hbb))
    rw [ha] at HR1
    rw [hbb] at HR2
    go_enter Tryd.func17, Tryd.ntmps17
    go_wp2_with fail
    refine (HR1.out _).mono ?_
    rintro e w1 ⟨rfl, hb1⟩
    have HB := Lib.hid ((BxJ.new w _ _ _ _ _ _ _ _ _).step hb1)
    clear hb1
    obtain ⟨⟨c0, c1, _⟩, ⟨d0, d1, _⟩, _⟩ := HB.out
    go_wp2_with fail
    refine (HR2.out _).mono ?_
    rintro e w2 ⟨rfl, hb2⟩
    have HB2 := Lib.hid (HB.out.step hb2)
    clear hb2 c0 c1 d0 d1
    obtain ⟨⟨c0, c1, _⟩, ⟨d0, d1, _⟩, ⟨e0, e1, f0, f1⟩, _, hb'⟩ := HB2.out
    go_wp2_with fail
    try simp only [Exit.inBlock, Exit.then]
    refine bodyPost_ret (results_t2 rfl _ _ rfl HB2.out.2.2.1.set2) rfl ?_
    exact ⟨by rw [Hv.out]; rfl, by go_grown⟩
  have Hv := Lib.hid (joinR_yes k m k2 m2 ha hbb)
  obtain ⟨B, hB0, hBs, hBe⟩ := best_ex k m k2 m2 ha hbb
  have HB0 := Lib.hid hB0
  have HBs := Lib.hid hBs
  have HBe := Lib.hid hBe
  clear hB0 hBs hBe
  rw [ha] at HR1
  rw [hbb] at HR2
  clear ha hbb
  go_enter Tryd.func17, Tryd.ntmps17
  go_wp2_with fail
  refine (HR1.out _).mono ?_
  rintro e w1 ⟨rfl, hb1⟩
  have HB := Lib.hid ((BxJ.new w _ _ _ _ _ _ _ _ _).step hb1)
  clear hb1
  obtain ⟨⟨c0, c1, _⟩, ⟨d0, d1, _⟩, _⟩ := HB.out
  go_wp2_with fail
  refine (HR2.out _).mono ?_
  rintro e w2 ⟨rfl, hb2⟩
  have HB2 := Lib.hid (HB.out.step hb2)
  clear hb2 c0 c1 d0 d1
  go_wp2_with fail
  refine (rallT_any _).mono ?_
  rintro e w3 ⟨v, rfl, ho, hb3⟩
  obtain ⟨g, cap, hvf, hg1, hg2, hrow⟩ := ho.form (by rw [allT_length]; omega)
  rw [allT_length] at hvf
  subst hvf
  have HB3 := Lib.hid (HB2.out.step hb3)
  have hlt3 := HB3.out.2.2.2.1
  have HJ : Hid (RJ w (w3.alloc (.cells #[.int .i64 0, .int .i64 0] 23)) g w3.heap.size k m k2 m2 none) :=
    ⟨HB3.out.step ((Below.refl _ _).alloc (Nat.le_refl _) _), Blk2.new w3 _ _ _ _ rfl,
      fun i t hi => ⟨(((Below.refl w3.heap.size w3).alloc (Nat.le_refl _) _).cell (p := ⟨g, 2 * i, none⟩) hg2).trans (hrow i t hi).1, (((Below.refl w3.heap.size w3).alloc (Nat.le_refl _) _).cell (p := ⟨g, 2 * i + 1, none⟩) hg2).trans (hrow i t hi).2⟩, hg2, by simp, hlt3⟩
  have Hlt3 := Lib.hid hlt3
  clear hb3 ho hrow hlt3
  go_wp2_with fail
  go_loopw [8, 9] (fun s i wr => ∃ (j : Nat) (o : Option (Int × Int)), j ≤ 242 ∧ i = .int .i64 j ∧ s = .bool o.isSome ∧ Hid (o = B j) ∧ Hid (RJ w wr g w3.heap.size k m k2 m2 o)) (fun _ i _ => 242 - (intOf i).toNat)
  case atStart => exact ⟨0, none, by omega, rfl, rfl, HB0.out.symm, HJ⟩
  case round =>
    obtain ⟨j, o, hj, rfl, rfl, ho, HR⟩ := hrel
    by_cases h1 : j < 242
    · obtain ⟨⟨tk, tm⟩, ht⟩ : ∃ t, allT[j]? = some t := ⟨_, List.getElem?_eq_getElem (by rw [allT_length]; exact h1)⟩
      have Hst : Hid (B (j + 1) = bif wideT tk tm k m then bif wideT tk tm k2 m2 then bset o (tk, tm) else o else o) := by
        show _ = _
        rw [HBs.out j _ ht, ← ho.out]; rfl
      obtain ⟨t0, t1⟩ := HR.out.2.2.1 j _ ht
      rw [Nat.mul_comm] at t0 t1
      obtain ⟨⟨⟨c0, c1, _⟩, ⟨d0, d1, _⟩, _⟩, ⟨e0, e1, f0, f1⟩, _, hg3, hb7, hb8⟩ := HR.out
      have hne : Nonempty (BelowBy wr.heap.size wr) := ⟨⟨wr, Below.refl _ _⟩⟩
      have C0 : ∀ p : BelowBy wr.heap.size wr, p.x.cell? ⟨w.heap.size, 0, none⟩ = some (.int .i64 k) := fun p => (p.h.cell (by simp; omega)).trans c0
      have C1 : ∀ p : BelowBy wr.heap.size wr, p.x.cell? ⟨w.heap.size, 1, none⟩ = some (.int .i64 m) := fun p => (p.h.cell (by simp; omega)).trans c1
      have D0 : ∀ p : BelowBy wr.heap.size wr, p.x.cell? ⟨w.heap.size + 1, 0, none⟩ = some (.int .i64 k2) := fun p => (p.h.cell (by simp; omega)).trans d0
      have D1 : ∀ p : BelowBy wr.heap.size wr, p.x.cell? ⟨w.heap.size + 1, 1, none⟩ = some (.int .i64 m2) := fun p => (p.h.cell (by simp; omega)).trans d1
      have E0 : ∀ p : BelowBy wr.heap.size wr, p.x.cell? ⟨w3.heap.size, 0, none⟩ = some (.int .i64 (bK o)) := fun p => (p.h.cell (by simp; omega)).trans e0
      have E1 : ∀ p : BelowBy wr.heap.size wr, p.x.cell? ⟨w3.heap.size, 1, none⟩ = some (.int .i64 (bM o)) := fun p => (p.h.cell (by simp; omega)).trans e1
      have T0 : ∀ p : BelowBy wr.heap.size wr, p.x.cell? ⟨g, j * 2, none⟩ = some (.int .i64 tk) := fun p => (p.h.cell (by simp; omega)).trans t0
      have T1 : ∀ p : BelowBy wr.heap.size wr, p.x.cell? ⟨g, j * 2 + 1, none⟩ = some (.int .i64 tm) := fun p => (p.h.cell (by simp; omega)).trans t1
      have F0 : ∀ p : BelowBy wr.heap.size wr, p.x.frozen? ⟨w3.heap.size, 0, none⟩ = false := fun p => (p.h.frozen (by simp; omega)).trans f0
      have F1 : ∀ p : BelowBy wr.heap.size wr, p.x.frozen? ⟨w3.heap.size, 1, none⟩ = false := fun p => (p.h.frozen (by simp; omega)).trans f1
      clear c0 c1 d0 d1 e0 e1 t0 t1 f0 f1
      have H1 := Lib.hid (fun w => trwide_any tk tm k m w)
      have H2 := Lib.hid (fun w => trwide_any tk tm k2 m2 w)
      have Ht := Lib.hid ht; clear ht
      generalize wideT tk tm k m = x1 at H1 Hst
      generalize wideT tk tm k2 m2 = x2 at H2 Hst
      cases x1
      · replace Hst : Hid (B (j + 1) = o) := Hst
        go_wp2_with fail
        refine wp_region_below wr.heap.size (by kernel_rfl) (by kernel_rfl) ?_
        repeat (
          with_reducible refine wpQuiet_step (fun K hK => ?_)
          go_simp
          refine hK _ ?_
          clear hK K)
        with_reducible refine wpQuiet_step (fun K hK => ?_)
        go_simp
        apply Exists.intro
        refine ⟨fun p => ?_, hK _ ?_⟩
        exact (H1.out _).mono fun e w5 ⟨he, hb⟩ => ⟨he, p.step (Nat.le_refl _) hb⟩
        clear hK K
        repeat (
          with_reducible refine wpQuiet_step (fun K hK => ?_)
          go_simp
          refine hK _ ?_
          clear hK K)
        refine wpQuiet_nil ?_
        rintro _ ⟨p, rfl⟩
        go_wp2_with fail
        go_roundw
        case rel => exact ⟨j + 1, o, by omega, by simp, rfl, Hst.out.symm, HR.out.step p.h⟩
        case measure => simp [intOf]; omega
      cases x2
      · replace Hst : Hid (B (j + 1) = o) := Hst
        go_wp2_with fail
        refine wp_region_below wr.heap.size (by kernel_rfl) (by kernel_rfl) ?_
        repeat (
          with_reducible refine wpQuiet_step (fun K hK => ?_)
          go_simp
          refine hK _ ?_
          clear hK K)
        with_reducible refine wpQuiet_step (fun K hK => ?_)
        go_simp
        apply Exists.intro
        refine ⟨fun p => ?_, hK _ ?_⟩
        exact (H1.out _).mono fun e w5 ⟨he, hb⟩ => ⟨he, p.step (Nat.le_refl _) hb⟩
        clear hK K
        repeat (
          with_reducible refine wpQuiet_step (fun K hK => ?_)
          go_simp
          refine hK _ ?_
          clear hK K)
        with_reducible refine wpQuiet_step (fun K hK => ?_)
        go_simp
        apply Exists.intro
        refine ⟨fun p => ?_, hK _ ?_⟩
        exact (H2.out _).mono fun e w5 ⟨he, hb⟩ => ⟨he, p.step (Nat.le_refl _) hb⟩
        clear hK K
        repeat (
          with_reducible refine wpQuiet_step (fun K hK => ?_)
          go_simp
          refine hK _ ?_
          clear hK K)
        refine wpQuiet_nil ?_
        rintro _ ⟨p, rfl⟩
        go_wp2_with fail
        go_roundw
        case rel => exact ⟨j + 1, o, by omega, by simp, rfl, Hst.out.symm, HR.out.step p.h⟩
        case measure => simp [intOf]; omega
      cases o with
      | none =>
        replace Hst : Hid (B (j + 1) = some (tk, tm)) := Hst
        go_wp2_with fail
        refine wp_region_below wr.heap.size (by kernel_rfl) (by kernel_rfl) ?_
        repeat (
          with_reducible refine wpQuiet_step (fun K hK => ?_)
          go_simp
          refine hK _ ?_
          clear hK K)
        with_reducible refine wpQuiet_step (fun K hK => ?_)
        go_simp
        apply Exists.intro
        refine ⟨fun p => ?_, hK _ ?_⟩
        exact (H1.out _).mono fun e w5 ⟨he, hb⟩ => ⟨he, p.step (Nat.le_refl _) hb⟩
        clear hK K
        repeat (
          with_reducible refine wpQuiet_step (fun K hK => ?_)
          go_simp
          refine hK _ ?_
          clear hK K)
        with_reducible refine wpQuiet_step (fun K hK => ?_)
        go_simp
        apply Exists.intro
        refine ⟨fun p => ?_, hK _ ?_⟩
        exact (H2.out _).mono fun e w5 ⟨he, hb⟩ => ⟨he, p.step (Nat.le_refl _) hb⟩
        clear hK K
        repeat (
          with_reducible refine wpQuiet_step (fun K hK => ?_)
          go_simp
          refine hK _ ?_
          clear hK K)
        refine wpQuiet_nil ?_
        rintro _ ⟨p, rfl⟩
        go_wp2_with fail
        go_roundw
        case rel => exact ⟨j + 1, some (tk, tm), by omega, by simp, rfl, Hst.out.symm, (HR.out.step p.h).set tk tm⟩
        case measure => simp [intOf]; omega
      | some b =>
        obtain ⟨bk, bm⟩ := b
        have H3 := Lib.hid (fun w => trwide_any bk bm tk tm w)
        replace Hst : Hid (B (j + 1) = bif wideT bk bm tk tm then some (tk, tm) else some (bk, bm)) := Hst
        generalize wideT bk bm tk tm = x3 at H3 Hst
        cases x3
        · replace Hst : Hid (B (j + 1) = some (bk, bm)) := Hst
          go_wp2_with fail
          refine wp_region_below wr.heap.size (by kernel_rfl) (by kernel_rfl) ?_
          repeat (
            with_reducible refine wpQuiet_step (fun K hK => ?_)
            go_simp
            refine hK _ ?_
            clear hK K)
          with_reducible refine wpQuiet_step (fun K hK => ?_)
          go_simp
          apply Exists.intro
          refine ⟨fun p => ?_, hK _ ?_⟩
          exact (H1.out _).mono fun e w5 ⟨he, hb⟩ => ⟨he, p.step (Nat.le_refl _) hb⟩
          clear hK K
          repeat (
            with_reducible refine wpQuiet_step (fun K hK => ?_)
            go_simp
            refine hK _ ?_
            clear hK K)
          with_reducible refine wpQuiet_step (fun K hK => ?_)
          go_simp
          apply Exists.intro
          refine ⟨fun p => ?_, hK _ ?_⟩
          exact (H2.out _).mono fun e w5 ⟨he, hb⟩ => ⟨he, p.step (Nat.le_refl _) hb⟩
          clear hK K
          repeat (
            with_reducible refine wpQuiet_step (fun K hK => ?_)
            go_simp
            refine hK _ ?_
            clear hK K)
          with_reducible refine wpQuiet_step (fun K hK => ?_)
          go_simp
          apply Exists.intro
          refine ⟨fun p => ?_, hK _ ?_⟩
          exact (H3.out _).mono fun e w5 ⟨he, hb⟩ => ⟨he, p.step (Nat.le_refl _) hb⟩
          clear hK K
          repeat (
            with_reducible refine wpQuiet_step (fun K hK => ?_)
            go_simp
            refine hK _ ?_
            clear hK K)
          refine wpQuiet_nil ?_
          rintro _ ⟨p, rfl⟩
          go_wp2_with fail
          go_roundw
          case rel => exact ⟨j + 1, some (bk, bm), by omega, by simp, rfl, Hst.out.symm, HR.out.step p.h⟩
          case measure => simp [intOf]; omega
        · replace Hst : Hid (B (j + 1) = some (tk, tm)) := Hst
          go_wp2_with fail
          refine wp_region_below wr.heap.size (by kernel_rfl) (by kernel_rfl) ?_
          repeat (
            with_reducible refine wpQuiet_step (fun K hK => ?_)
            go_simp
            refine hK _ ?_
            clear hK K)
          with_reducible refine wpQuiet_step (fun K hK => ?_)
          go_simp
          apply Exists.intro
          refine ⟨fun p => ?_, hK _ ?_⟩
          exact (H1.out _).mono fun e w5 ⟨he, hb⟩ => ⟨he, p.step (Nat.le_refl _) hb⟩
          clear hK K
          repeat (
            with_reducible refine wpQuiet_step (fun K hK => ?_)
            go_simp
            refine hK _ ?_
            clear hK K)
          with_reducible refine wpQuiet_step (fun K hK => ?_)
          go_simp
          apply Exists.intro
          refine ⟨fun p => ?_, hK _ ?_⟩
          exact (H2.out _).mono fun e w5 ⟨he, hb⟩ => ⟨he, p.step (Nat.le_refl _) hb⟩
          clear hK K
          repeat (
            with_reducible refine wpQuiet_step (fun K hK => ?_)
            go_simp
            refine hK _ ?_
            clear hK K)
          with_reducible refine wpQuiet_step (fun K hK => ?_)
          go_simp
          apply Exists.intro
          refine ⟨fun p => ?_, hK _ ?_⟩
          exact (H3.out _).mono fun e w5 ⟨he, hb⟩ => ⟨he, p.step (Nat.le_refl _) hb⟩
          clear hK K
          repeat (
            with_reducible refine wpQuiet_step (fun K hK => ?_)
            go_simp
            refine hK _ ?_
            clear hK K)
          refine wpQuiet_nil ?_
          rintro _ ⟨p, rfl⟩
          go_wp2_with fail
          go_roundw
          case rel => exact ⟨j + 1, some (tk, tm), by omega, by simp, rfl, Hst.out.symm, (HR.out.step p.h).set tk tm⟩
          case measure => simp [intOf]; omega
    · obtain rfl : j = 242 := by omega
      have ho' := ho.out
      rw [HBe.out] at ho'
      subst ho'
      have HJ2 := Lib.hid HR.out
      obtain ⟨⟨_, _, ⟨c0, c1, f0, f1⟩, _, hb'⟩, ⟨e0, e1, _⟩, _⟩ := HJ2.out
      go_wp2_with fail
      try simp only [Exit.inBlock, Exit.then]
      refine bodyPost_ret (results_t2 rfl _ _ rfl HJ2.out.1.2.2.1.set2) rfl ?_
      exact ⟨by rw [Hv.out]; rfl, by go_grown⟩
end Go.Proofs.YtlfjkbghgfljaaaDoor
