/-
  TypOrder: for every three types the law returns true: to be as wide is an order, with a least one above each two. No condition but that the two tables of package utf read as the program's text lays them (tied by the card).
-/
import Derived.Test.YtlfjkbghgfljaaaDoorTypLivesC
import Derived.Test.YtlfjkbghgfljaaaDoorTypOpen
import Derived.Test.YtlfjkbghgfljaaaDoorTie
import Derived.Test.YtlfjkbghgfljaaaDoorCards
import Derived.Deep.CutBlock
import Derived.Deep.DeepCutAuto
import Derived.ProofKit
import Derived.OpenShut
import Derived.ShutString
import Derived.ChangeOld
import Derived.LaidMore
import Derived.SevenTiedAt
namespace Go.Proofs.YtlfjkbghgfljaaaDoor.typOrder
open Go.ChangeShapes Go.WideShapes Go.ChangeAt Go.RowKit
open Go.ChangeMaps (open_string shut_string)

/-- three types in their boxes -/
abbrev BxO (w w1 : World) (ak am bk bm ck cm : Int) : Prop := BxJ w w1 (.int .i64 ak) (.int .i64 am) (.int .i64 bk) (.int .i64 bm) (.int .i64 ck) (.int .i64 cm)
set_option maxRecDepth 100000 in
set_option maxHeartbeats 12800000 in
theorem walk_o (ak am bk bm ck cm : Int) (w : World) (HT : Hid (UTab w)) :
    Calls Tryd.prog 7 #[TT ak am, TT bk bm, TT ck cm] w fun e w' => e = .returned (.bool true) ∧ Below w.heap.size w w' := by
  have HWaa := Lib.hid (fun w => twide_any ak am ak am w)
  rw [wide_refl] at HWaa
  have HRa := Lib.hid (fun w => tright_any ak am w)
  have HRb := Lib.hid (fun w => tright_any bk bm w)
  have HWab := Lib.hid (fun w => twide_any ak am bk bm w)
  have HWba := Lib.hid (fun w => twide_any bk bm ak am w)
  have HWbc := Lib.hid (fun w => twide_any bk bm ck cm w)
  have HWac := Lib.hid (fun w => twide_any ak am ck cm w)
  have HWca := Lib.hid (fun w => twide_any ck cm ak am w)
  have HWcb := Lib.hid (fun w => twide_any ck cm bk bm w)
  have HJ := Lib.hid (fun w => tjoin_any ak am bk bm w)
  have Hanti := Lib.hid (wide_anti ak am bk bm)
  have Htrans := Lib.hid (wide_trans ak am bk bm ck cm)
  have Hyes := Lib.hid (joinR_yes ak am bk bm)
  have Hno := Lib.hid (joinR_no ak am bk bm)
  have Hspec := Lib.hid (join_spec ak am bk bm)
  go_enter Tryd.func7, Tryd.ntmps7
  go_wp2_with fail
  refine (lives6_any _ (((HT.out.alloc _).alloc _).alloc _)).mono ?_
  rintro e w1 ⟨rfl, hb1⟩
  have HB : Hid (BxO w w1 ak am bk bm ck cm) := Lib.hid ((BxJ.new w _ _ _ _ _ _ _ _ _).step hb1)
  clear hb1
  go_upto_region 3 with fail
  go_cut [31] (fun v wx => v = .bool false ∧ Hid (BxO w wx ak am bk bm ck cm))
  case first =>
    obtain ⟨⟨c0, c1, _⟩, ⟨d0, d1, _⟩, _, hlt, _⟩ := HB.out
    have hne : Nonempty (BelowBy w1.heap.size w1) := ⟨⟨w1, Below.refl _ _⟩⟩
    have C0 : ∀ p : BelowBy w1.heap.size w1, p.x.cell? ⟨w.heap.size, 0, none⟩ = some (.int .i64 ak) := fun p => (p.h.cell (by simp; omega)).trans c0
    have C1 : ∀ p : BelowBy w1.heap.size w1, p.x.cell? ⟨w.heap.size, 1, none⟩ = some (.int .i64 am) := fun p => (p.h.cell (by simp; omega)).trans c1
    have D0 : ∀ p : BelowBy w1.heap.size w1, p.x.cell? ⟨w.heap.size + 1, 0, none⟩ = some (.int .i64 bk) := fun p => (p.h.cell (by simp; omega)).trans d0
    have D1 : ∀ p : BelowBy w1.heap.size w1, p.x.cell? ⟨w.heap.size + 1, 1, none⟩ = some (.int .i64 bm) := fun p => (p.h.cell (by simp; omega)).trans d1
    clear c0 c1 d0 d1 HWbc HWac HWca HWcb HJ Htrans Hyes Hno Hspec HRb HT
    by_cases e1 : ak = bk
    · subst e1
      by_cases e2 : am = bm
      · subst e2
        clear Hanti HWab HWba
        generalize rightT ak am = ra at HWaa HRa
        refine wp_region_below w1.heap.size (by kernel_rfl) (by kernel_rfl) ?_
        repeat (
          with_reducible refine wpQuiet_step (fun K hK => ?_)
          go_simp
          refine hK _ ?_
          clear hK K)
        with_reducible refine wpQuiet_step (fun K hK => ?_)
        go_simp
        apply Exists.intro
        refine ⟨fun p => ?_, hK _ ?_⟩
        exact (HWaa.out _).mono fun e w5 ⟨he, hb⟩ => ⟨he, p.step (Nat.le_refl _) hb⟩
        clear hK K
        repeat (
          with_reducible refine wpQuiet_step (fun K hK => ?_)
          go_simp
          refine hK _ ?_
          clear hK K)
        with_reducible refine wpQuiet_step (fun K hK => ?_)
        go_simp
        apply Exists.intro
        refine ⟨fun p => ?_, hK _ ?_⟩
        exact (HRa.out _).mono fun e w5 ⟨he, hb⟩ => ⟨he, p.step (Nat.le_refl _) hb⟩
        clear hK K
        repeat (
          with_reducible refine wpQuiet_step (fun K hK => ?_)
          go_simp
          refine hK _ ?_
          clear hK K)
        refine wpQuiet_nil ?_
        rintro _ ⟨p, rfl⟩
        go_wp2_with fail
        go_meet
        exact ⟨rfl, HB.out.step p.h⟩
      · cases hx : wideT ak am ak bm
        · rw [hx] at HWab
          clear hx Hanti HWba
          generalize rightT ak am = ra at HWaa HRa
          refine wp_region_below w1.heap.size (by kernel_rfl) (by kernel_rfl) ?_
          repeat (
            with_reducible refine wpQuiet_step (fun K hK => ?_)
            go_simp
            refine hK _ ?_
            clear hK K)
          with_reducible refine wpQuiet_step (fun K hK => ?_)
          go_simp
          apply Exists.intro
          refine ⟨fun p => ?_, hK _ ?_⟩
          exact (HWaa.out _).mono fun e w5 ⟨he, hb⟩ => ⟨he, p.step (Nat.le_refl _) hb⟩
          clear hK K
          repeat (
            with_reducible refine wpQuiet_step (fun K hK => ?_)
            go_simp
            refine hK _ ?_
            clear hK K)
          with_reducible refine wpQuiet_step (fun K hK => ?_)
          go_simp
          apply Exists.intro
          refine ⟨fun p => ?_, hK _ ?_⟩
          exact (HRa.out _).mono fun e w5 ⟨he, hb⟩ => ⟨he, p.step (Nat.le_refl _) hb⟩
          clear hK K
          repeat (
            with_reducible refine wpQuiet_step (fun K hK => ?_)
            go_simp
            refine hK _ ?_
            clear hK K)
          with_reducible refine wpQuiet_step (fun K hK => ?_)
          go_simp
          apply Exists.intro
          refine ⟨fun p => ?_, hK _ ?_⟩
          exact (HWab.out _).mono fun e w5 ⟨he, hb⟩ => ⟨he, p.step (Nat.le_refl _) hb⟩
          clear hK K
          repeat (
            with_reducible refine wpQuiet_step (fun K hK => ?_)
            go_simp
            refine hK _ ?_
            clear hK K)
          refine wpQuiet_nil ?_
          rintro _ ⟨p, rfl⟩
          go_wp2_with fail
          go_meet
          exact ⟨rfl, HB.out.step p.h⟩
        · have hy : wideT ak bm ak am = false := by
            cases hy : wideT ak bm ak am
            · rfl
            · exact absurd (Hanti.out hx hy) (by omega)
          rw [hx] at HWab
          rw [hy] at HWba
          clear hx hy Hanti
          generalize rightT ak am = ra at HWaa HRa
          refine wp_region_below w1.heap.size (by kernel_rfl) (by kernel_rfl) ?_
          repeat (
            with_reducible refine wpQuiet_step (fun K hK => ?_)
            go_simp
            refine hK _ ?_
            clear hK K)
          with_reducible refine wpQuiet_step (fun K hK => ?_)
          go_simp
          apply Exists.intro
          refine ⟨fun p => ?_, hK _ ?_⟩
          exact (HWaa.out _).mono fun e w5 ⟨he, hb⟩ => ⟨he, p.step (Nat.le_refl _) hb⟩
          clear hK K
          repeat (
            with_reducible refine wpQuiet_step (fun K hK => ?_)
            go_simp
            refine hK _ ?_
            clear hK K)
          with_reducible refine wpQuiet_step (fun K hK => ?_)
          go_simp
          apply Exists.intro
          refine ⟨fun p => ?_, hK _ ?_⟩
          exact (HRa.out _).mono fun e w5 ⟨he, hb⟩ => ⟨he, p.step (Nat.le_refl _) hb⟩
          clear hK K
          repeat (
            with_reducible refine wpQuiet_step (fun K hK => ?_)
            go_simp
            refine hK _ ?_
            clear hK K)
          with_reducible refine wpQuiet_step (fun K hK => ?_)
          go_simp
          apply Exists.intro
          refine ⟨fun p => ?_, hK _ ?_⟩
          exact (HWab.out _).mono fun e w5 ⟨he, hb⟩ => ⟨he, p.step (Nat.le_refl _) hb⟩
          clear hK K
          repeat (
            with_reducible refine wpQuiet_step (fun K hK => ?_)
            go_simp
            refine hK _ ?_
            clear hK K)
          with_reducible refine wpQuiet_step (fun K hK => ?_)
          go_simp
          apply Exists.intro
          refine ⟨fun p => ?_, hK _ ?_⟩
          exact (HWba.out _).mono fun e w5 ⟨he, hb⟩ => ⟨he, p.step (Nat.le_refl _) hb⟩
          clear hK K
          repeat (
            with_reducible refine wpQuiet_step (fun K hK => ?_)
            go_simp
            refine hK _ ?_
            clear hK K)
          refine wpQuiet_nil ?_
          rintro _ ⟨p, rfl⟩
          go_wp2_with fail
          go_meet
          exact ⟨rfl, HB.out.step p.h⟩
    · cases hx : wideT ak am bk bm
      · rw [hx] at HWab
        clear hx Hanti HWba
        generalize rightT ak am = ra at HWaa HRa
        refine wp_region_below w1.heap.size (by kernel_rfl) (by kernel_rfl) ?_
        repeat (
          with_reducible refine wpQuiet_step (fun K hK => ?_)
          go_simp
          refine hK _ ?_
          clear hK K)
        with_reducible refine wpQuiet_step (fun K hK => ?_)
        go_simp
        apply Exists.intro
        refine ⟨fun p => ?_, hK _ ?_⟩
        exact (HWaa.out _).mono fun e w5 ⟨he, hb⟩ => ⟨he, p.step (Nat.le_refl _) hb⟩
        clear hK K
        repeat (
          with_reducible refine wpQuiet_step (fun K hK => ?_)
          go_simp
          refine hK _ ?_
          clear hK K)
        with_reducible refine wpQuiet_step (fun K hK => ?_)
        go_simp
        apply Exists.intro
        refine ⟨fun p => ?_, hK _ ?_⟩
        exact (HRa.out _).mono fun e w5 ⟨he, hb⟩ => ⟨he, p.step (Nat.le_refl _) hb⟩
        clear hK K
        repeat (
          with_reducible refine wpQuiet_step (fun K hK => ?_)
          go_simp
          refine hK _ ?_
          clear hK K)
        with_reducible refine wpQuiet_step (fun K hK => ?_)
        go_simp
        apply Exists.intro
        refine ⟨fun p => ?_, hK _ ?_⟩
        exact (HWab.out _).mono fun e w5 ⟨he, hb⟩ => ⟨he, p.step (Nat.le_refl _) hb⟩
        clear hK K
        repeat (
          with_reducible refine wpQuiet_step (fun K hK => ?_)
          go_simp
          refine hK _ ?_
          clear hK K)
        refine wpQuiet_nil ?_
        rintro _ ⟨p, rfl⟩
        go_wp2_with fail
        go_meet
        exact ⟨rfl, HB.out.step p.h⟩
      · have hy : wideT bk bm ak am = false := by
          cases hy : wideT bk bm ak am
          · rfl
          · exact absurd (Hanti.out hx hy) (by omega)
        rw [hx] at HWab
        rw [hy] at HWba
        clear hx hy Hanti
        generalize rightT ak am = ra at HWaa HRa
        refine wp_region_below w1.heap.size (by kernel_rfl) (by kernel_rfl) ?_
        repeat (
          with_reducible refine wpQuiet_step (fun K hK => ?_)
          go_simp
          refine hK _ ?_
          clear hK K)
        with_reducible refine wpQuiet_step (fun K hK => ?_)
        go_simp
        apply Exists.intro
        refine ⟨fun p => ?_, hK _ ?_⟩
        exact (HWaa.out _).mono fun e w5 ⟨he, hb⟩ => ⟨he, p.step (Nat.le_refl _) hb⟩
        clear hK K
        repeat (
          with_reducible refine wpQuiet_step (fun K hK => ?_)
          go_simp
          refine hK _ ?_
          clear hK K)
        with_reducible refine wpQuiet_step (fun K hK => ?_)
        go_simp
        apply Exists.intro
        refine ⟨fun p => ?_, hK _ ?_⟩
        exact (HRa.out _).mono fun e w5 ⟨he, hb⟩ => ⟨he, p.step (Nat.le_refl _) hb⟩
        clear hK K
        repeat (
          with_reducible refine wpQuiet_step (fun K hK => ?_)
          go_simp
          refine hK _ ?_
          clear hK K)
        with_reducible refine wpQuiet_step (fun K hK => ?_)
        go_simp
        apply Exists.intro
        refine ⟨fun p => ?_, hK _ ?_⟩
        exact (HWab.out _).mono fun e w5 ⟨he, hb⟩ => ⟨he, p.step (Nat.le_refl _) hb⟩
        clear hK K
        repeat (
          with_reducible refine wpQuiet_step (fun K hK => ?_)
          go_simp
          refine hK _ ?_
          clear hK K)
        with_reducible refine wpQuiet_step (fun K hK => ?_)
        go_simp
        apply Exists.intro
        refine ⟨fun p => ?_, hK _ ?_⟩
        exact (HWba.out _).mono fun e w5 ⟨he, hb⟩ => ⟨he, p.step (Nat.le_refl _) hb⟩
        clear hK K
        repeat (
          with_reducible refine wpQuiet_step (fun K hK => ?_)
          go_simp
          refine hK _ ?_
          clear hK K)
        refine wpQuiet_nil ?_
        rintro _ ⟨p, rfl⟩
        go_wp2_with fail
        go_meet
        exact ⟨rfl, HB.out.step p.h⟩
  case rest =>
    obtain ⟨rfl, HB⟩ := hcut
    clear HWaa Hanti
    go_upto_region 5 with fail
    go_cut [45] (fun v wx => v = .bool false ∧ Hid (BxO w wx ak am bk bm ck cm))
    case first =>
      clear HWca HWcb HJ Hyes Hno Hspec HRa HRb HWba HT
      cases hx : wideT ak am bk bm
      · rw [hx] at HWab
        clear hx Htrans
        obtain ⟨⟨c0, c1, _⟩, ⟨d0, d1, _⟩, ⟨e0, e1, _⟩, _⟩ := HB.out
        go_wp2_with fail
        refine (HWab.out _).mono ?_
        rintro e v1 ⟨rfl, hb⟩
        have HB1 := Lib.hid (HB.out.step hb)
        clear hb c0 c1 d0 d1 e0 e1
        obtain ⟨⟨c0, c1, _⟩, ⟨d0, d1, _⟩, ⟨e0, e1, _⟩, _⟩ := HB1.out
        go_wp2_with fail
        go_meet
        exact ⟨rfl, HB1⟩
      cases hy : wideT bk bm ck cm
      · rw [hx] at HWab
        rw [hy] at HWbc
        clear hx hy Htrans
        obtain ⟨⟨c0, c1, _⟩, ⟨d0, d1, _⟩, ⟨e0, e1, _⟩, _⟩ := HB.out
        go_wp2_with fail
        refine (HWab.out _).mono ?_
        rintro e v1 ⟨rfl, hb⟩
        have HB1 := Lib.hid (HB.out.step hb)
        clear hb c0 c1 d0 d1 e0 e1
        obtain ⟨⟨c0, c1, _⟩, ⟨d0, d1, _⟩, ⟨e0, e1, _⟩, _⟩ := HB1.out
        go_wp2_with fail
        refine (HWbc.out _).mono ?_
        rintro e v2 ⟨rfl, hb⟩
        have HB2 := Lib.hid (HB1.out.step hb)
        clear hb c0 c1 d0 d1 e0 e1
        obtain ⟨⟨c0, c1, _⟩, ⟨d0, d1, _⟩, ⟨e0, e1, _⟩, _⟩ := HB2.out
        go_wp2_with fail
        go_meet
        exact ⟨rfl, HB2⟩
      · have hz := Htrans.out hx hy
        rw [hx] at HWab
        rw [hy] at HWbc
        rw [hz] at HWac
        clear hx hy hz Htrans
        obtain ⟨⟨c0, c1, _⟩, ⟨d0, d1, _⟩, ⟨e0, e1, _⟩, _⟩ := HB.out
        go_wp2_with fail
        refine (HWab.out _).mono ?_
        rintro e v1 ⟨rfl, hb⟩
        have HB1 := Lib.hid (HB.out.step hb)
        clear hb c0 c1 d0 d1 e0 e1
        obtain ⟨⟨c0, c1, _⟩, ⟨d0, d1, _⟩, ⟨e0, e1, _⟩, _⟩ := HB1.out
        go_wp2_with fail
        refine (HWbc.out _).mono ?_
        rintro e v2 ⟨rfl, hb⟩
        have HB2 := Lib.hid (HB1.out.step hb)
        clear hb c0 c1 d0 d1 e0 e1
        obtain ⟨⟨c0, c1, _⟩, ⟨d0, d1, _⟩, ⟨e0, e1, _⟩, _⟩ := HB2.out
        go_wp2_with fail
        refine (HWac.out _).mono ?_
        rintro e v3 ⟨rfl, hb⟩
        have HB3 := Lib.hid (HB2.out.step hb)
        clear hb c0 c1 d0 d1 e0 e1
        obtain ⟨⟨c0, c1, _⟩, ⟨d0, d1, _⟩, ⟨e0, e1, _⟩, _⟩ := HB3.out
        go_wp2_with fail
        go_meet
        exact ⟨rfl, HB3⟩
    case rest =>
      obtain ⟨rfl, HB⟩ := hcut
      clear HWab HWba HWbc HWac Htrans
      cases hra : rightT ak am
      · rw [hra] at HRa
        rw [Hno.out (.inl hra)] at HJ
        replace HJ : Hid (∀ w, Calls Tryd.prog 16 #[TT ak am, TT bk bm] w fun e w' => e = .returned (.tuple #[TT 0 0, .bool false]) ∧ Below w.heap.size w w') := HJ
        clear hra Hno Hyes Hspec HT
        obtain ⟨⟨c0, c1, _⟩, ⟨d0, d1, _⟩, ⟨e0, e1, _⟩, _⟩ := HB.out
        go_wp2_with fail
        refine (HJ.out _).mono ?_
        rintro e wj ⟨rfl, hbj⟩
        have HBj := Lib.hid (HB.out.step hbj)
        clear hbj c0 c1 d0 d1 e0 e1
        obtain ⟨⟨c0, c1, _⟩, ⟨d0, d1, _⟩, ⟨e0, e1, _⟩, hlt, _⟩ := HBj.out
        have z0 : w.heap.size < wj.heap.size := by omega
        have z1 : w.heap.size + 1 < wj.heap.size := by omega
        go_wp2_with fail
        refine (HRa.out _).mono ?_
        rintro e y1 ⟨rfl, hb⟩
        have HY1 := Lib.hid ((HBj.out.step ((Below.refl _ _).alloc (Nat.le_refl _) _)).step hb)
        clear hb c0 c1 d0 d1 e0 e1
        obtain ⟨⟨c0, c1, _⟩, ⟨d0, d1, _⟩, ⟨e0, e1, _⟩, _⟩ := HY1.out
        go_wp2_with fail
        go_ret
        exact ⟨rfl, HY1.out.2.2.2.2⟩
      cases hrb : rightT bk bm
      · rw [hra] at HRa
        rw [hrb] at HRb
        rw [Hno.out (.inr hrb)] at HJ
        replace HJ : Hid (∀ w, Calls Tryd.prog 16 #[TT ak am, TT bk bm] w fun e w' => e = .returned (.tuple #[TT 0 0, .bool false]) ∧ Below w.heap.size w w') := HJ
        clear hra hrb Hno Hyes Hspec HT
        obtain ⟨⟨c0, c1, _⟩, ⟨d0, d1, _⟩, ⟨e0, e1, _⟩, _⟩ := HB.out
        go_wp2_with fail
        refine (HJ.out _).mono ?_
        rintro e wj ⟨rfl, hbj⟩
        have HBj := Lib.hid (HB.out.step hbj)
        clear hbj c0 c1 d0 d1 e0 e1
        obtain ⟨⟨c0, c1, _⟩, ⟨d0, d1, _⟩, ⟨e0, e1, _⟩, hlt, _⟩ := HBj.out
        have z0 : w.heap.size < wj.heap.size := by omega
        have z1 : w.heap.size + 1 < wj.heap.size := by omega
        go_wp2_with fail
        refine (HRa.out _).mono ?_
        rintro e y1 ⟨rfl, hb⟩
        have HY1 := Lib.hid ((HBj.out.step ((Below.refl _ _).alloc (Nat.le_refl _) _)).step hb)
        clear hb c0 c1 d0 d1 e0 e1
        obtain ⟨⟨c0, c1, _⟩, ⟨d0, d1, _⟩, ⟨e0, e1, _⟩, _⟩ := HY1.out
        go_wp2_with fail
        refine (HRb.out _).mono ?_
        rintro e y2 ⟨rfl, hb⟩
        have HY2 := Lib.hid (HY1.out.step hb)
        clear hb c0 c1 d0 d1 e0 e1
        go_wp2_with fail
        go_ret
        exact ⟨rfl, HY2.out.2.2.2.2⟩
      rw [Hyes.out hra hrb] at HJ
      obtain ⟨s1, s2, s3⟩ := Hspec.out hra hrb
      clear Hyes Hno Hspec HRa HRb hra hrb HT
      have s4 := s3 ck cm
      clear s3
      generalize joinK ak bk = jk at HJ s1 s2 s4
      generalize joinM ak am bk bm = jm at HJ s1 s2 s4
      replace HJ : Hid (∀ w, Calls Tryd.prog 16 #[TT ak am, TT bk bm] w fun e w' => e = .returned (.tuple #[TT jk jm, .bool true]) ∧ Below w.heap.size w w') := HJ
      have HWJa := Lib.hid (fun w => twide_any jk jm ak am w)
      have HWJb := Lib.hid (fun w => twide_any jk jm bk bm w)
      have HWcJ := Lib.hid (fun w => twide_any ck cm jk jm w)
      rw [s1] at HWJa
      rw [s2] at HWJb
      clear s1 s2
      cases hx : wideT ck cm ak am
      · rw [hx] at HWca
        clear hx s4
        obtain ⟨⟨c0, c1, _⟩, ⟨d0, d1, _⟩, ⟨e0, e1, _⟩, _⟩ := HB.out
        go_wp2_with fail
        refine (HJ.out _).mono ?_
        rintro e wj ⟨rfl, hbj⟩
        have HBj := Lib.hid (HB.out.step hbj)
        clear hbj c0 c1 d0 d1 e0 e1
        obtain ⟨⟨c0, c1, _⟩, ⟨d0, d1, _⟩, ⟨e0, e1, _⟩, hlt, _⟩ := HBj.out
        have z0 : w.heap.size < wj.heap.size := by omega
        have z1 : w.heap.size + 1 < wj.heap.size := by omega
        go_wp2_with fail
        refine (HWJa.out _).mono ?_
        rintro e y1 ⟨rfl, hb⟩
        have HY1 := Lib.hid ((HBj.out.step ((Below.refl _ _).alloc (Nat.le_refl _) _)).step hb)
        have HN1 := Lib.hid ((Blk2.new wj _ _ _ _ rfl).below hb (by simp))
        have l1 := Lib.hid (hb.size)
        clear hb c0 c1 d0 d1 e0 e1
        obtain ⟨⟨c0, c1, _⟩, ⟨d0, d1, _⟩, ⟨e0, e1, _⟩, _⟩ := HY1.out
        obtain ⟨n0, n1, _⟩ := HN1.out
        go_wp2_with fail
        refine (HWJb.out _).mono ?_
        rintro e y2 ⟨rfl, hb⟩
        have HY2 := Lib.hid (HY1.out.step hb)
        have HN2 := Lib.hid (HN1.out.below hb (by have := l1.out; simp at this; omega))
        have l2 := Lib.hid (hb.size)
        clear hb c0 c1 d0 d1 e0 e1 n0 n1
        obtain ⟨⟨c0, c1, _⟩, ⟨d0, d1, _⟩, ⟨e0, e1, _⟩, _⟩ := HY2.out
        obtain ⟨n0, n1, _⟩ := HN2.out
        go_wp2_with fail
        refine (HWca.out _).mono ?_
        rintro e y3 ⟨rfl, hb⟩
        have HY3 := Lib.hid (HY2.out.step hb)
        have HN3 := Lib.hid (HN2.out.below hb (by have := l1.out; simp at this; have := l2.out; omega))
        have l3 := Lib.hid (hb.size)
        clear hb c0 c1 d0 d1 e0 e1 n0 n1
        go_wp2_with fail
        go_ret
        exact ⟨rfl, HY3.out.2.2.2.2⟩
      cases hy : wideT ck cm bk bm
      · rw [hx] at HWca
        rw [hy] at HWcb
        clear hx hy s4
        obtain ⟨⟨c0, c1, _⟩, ⟨d0, d1, _⟩, ⟨e0, e1, _⟩, _⟩ := HB.out
        go_wp2_with fail
        refine (HJ.out _).mono ?_
        rintro e wj ⟨rfl, hbj⟩
        have HBj := Lib.hid (HB.out.step hbj)
        clear hbj c0 c1 d0 d1 e0 e1
        obtain ⟨⟨c0, c1, _⟩, ⟨d0, d1, _⟩, ⟨e0, e1, _⟩, hlt, _⟩ := HBj.out
        have z0 : w.heap.size < wj.heap.size := by omega
        have z1 : w.heap.size + 1 < wj.heap.size := by omega
        go_wp2_with fail
        refine (HWJa.out _).mono ?_
        rintro e y1 ⟨rfl, hb⟩
        have HY1 := Lib.hid ((HBj.out.step ((Below.refl _ _).alloc (Nat.le_refl _) _)).step hb)
        have HN1 := Lib.hid ((Blk2.new wj _ _ _ _ rfl).below hb (by simp))
        have l1 := Lib.hid (hb.size)
        clear hb c0 c1 d0 d1 e0 e1
        obtain ⟨⟨c0, c1, _⟩, ⟨d0, d1, _⟩, ⟨e0, e1, _⟩, _⟩ := HY1.out
        obtain ⟨n0, n1, _⟩ := HN1.out
        go_wp2_with fail
        refine (HWJb.out _).mono ?_
        rintro e y2 ⟨rfl, hb⟩
        have HY2 := Lib.hid (HY1.out.step hb)
        have HN2 := Lib.hid (HN1.out.below hb (by have := l1.out; simp at this; omega))
        have l2 := Lib.hid (hb.size)
        clear hb c0 c1 d0 d1 e0 e1 n0 n1
        obtain ⟨⟨c0, c1, _⟩, ⟨d0, d1, _⟩, ⟨e0, e1, _⟩, _⟩ := HY2.out
        obtain ⟨n0, n1, _⟩ := HN2.out
        go_wp2_with fail
        refine (HWca.out _).mono ?_
        rintro e y3 ⟨rfl, hb⟩
        have HY3 := Lib.hid (HY2.out.step hb)
        have HN3 := Lib.hid (HN2.out.below hb (by have := l1.out; simp at this; have := l2.out; omega))
        have l3 := Lib.hid (hb.size)
        clear hb c0 c1 d0 d1 e0 e1 n0 n1
        obtain ⟨⟨c0, c1, _⟩, ⟨d0, d1, _⟩, ⟨e0, e1, _⟩, _⟩ := HY3.out
        obtain ⟨n0, n1, _⟩ := HN3.out
        go_wp2_with fail
        refine (HWcb.out _).mono ?_
        rintro e y4 ⟨rfl, hb⟩
        have HY4 := Lib.hid (HY3.out.step hb)
        have HN4 := Lib.hid (HN3.out.below hb (by have := l1.out; simp at this; have := l2.out; have := l3.out; omega))
        have l4 := Lib.hid (hb.size)
        clear hb c0 c1 d0 d1 e0 e1 n0 n1
        go_wp2_with fail
        go_ret
        exact ⟨rfl, HY4.out.2.2.2.2⟩
      · rw [s4 hx hy] at HWcJ
        rw [hx] at HWca
        rw [hy] at HWcb
        clear hx hy s4
        obtain ⟨⟨c0, c1, _⟩, ⟨d0, d1, _⟩, ⟨e0, e1, _⟩, _⟩ := HB.out
        go_wp2_with fail
        refine (HJ.out _).mono ?_
        rintro e wj ⟨rfl, hbj⟩
        have HBj := Lib.hid (HB.out.step hbj)
        clear hbj c0 c1 d0 d1 e0 e1
        obtain ⟨⟨c0, c1, _⟩, ⟨d0, d1, _⟩, ⟨e0, e1, _⟩, hlt, _⟩ := HBj.out
        have z0 : w.heap.size < wj.heap.size := by omega
        have z1 : w.heap.size + 1 < wj.heap.size := by omega
        go_wp2_with fail
        refine (HWJa.out _).mono ?_
        rintro e y1 ⟨rfl, hb⟩
        have HY1 := Lib.hid ((HBj.out.step ((Below.refl _ _).alloc (Nat.le_refl _) _)).step hb)
        have HN1 := Lib.hid ((Blk2.new wj _ _ _ _ rfl).below hb (by simp))
        have l1 := Lib.hid (hb.size)
        clear hb c0 c1 d0 d1 e0 e1
        obtain ⟨⟨c0, c1, _⟩, ⟨d0, d1, _⟩, ⟨e0, e1, _⟩, _⟩ := HY1.out
        obtain ⟨n0, n1, _⟩ := HN1.out
        go_wp2_with fail
        refine (HWJb.out _).mono ?_
        rintro e y2 ⟨rfl, hb⟩
        have HY2 := Lib.hid (HY1.out.step hb)
        have HN2 := Lib.hid (HN1.out.below hb (by have := l1.out; simp at this; omega))
        have l2 := Lib.hid (hb.size)
        clear hb c0 c1 d0 d1 e0 e1 n0 n1
        obtain ⟨⟨c0, c1, _⟩, ⟨d0, d1, _⟩, ⟨e0, e1, _⟩, _⟩ := HY2.out
        obtain ⟨n0, n1, _⟩ := HN2.out
        go_wp2_with fail
        refine (HWca.out _).mono ?_
        rintro e y3 ⟨rfl, hb⟩
        have HY3 := Lib.hid (HY2.out.step hb)
        have HN3 := Lib.hid (HN2.out.below hb (by have := l1.out; simp at this; have := l2.out; omega))
        have l3 := Lib.hid (hb.size)
        clear hb c0 c1 d0 d1 e0 e1 n0 n1
        obtain ⟨⟨c0, c1, _⟩, ⟨d0, d1, _⟩, ⟨e0, e1, _⟩, _⟩ := HY3.out
        obtain ⟨n0, n1, _⟩ := HN3.out
        go_wp2_with fail
        refine (HWcb.out _).mono ?_
        rintro e y4 ⟨rfl, hb⟩
        have HY4 := Lib.hid (HY3.out.step hb)
        have HN4 := Lib.hid (HN3.out.below hb (by have := l1.out; simp at this; have := l2.out; have := l3.out; omega))
        have l4 := Lib.hid (hb.size)
        clear hb c0 c1 d0 d1 e0 e1 n0 n1
        obtain ⟨⟨c0, c1, _⟩, ⟨d0, d1, _⟩, ⟨e0, e1, _⟩, _⟩ := HY4.out
        obtain ⟨n0, n1, _⟩ := HN4.out
        go_wp2_with fail
        refine (HWcJ.out _).mono ?_
        rintro e y5 ⟨rfl, hb⟩
        have HY5 := Lib.hid (HY4.out.step hb)
        have HN5 := Lib.hid (HN4.out.below hb (by have := l1.out; simp at this; have := l2.out; have := l3.out; have := l4.out; omega))
        have l5 := Lib.hid (hb.size)
        clear hb c0 c1 d0 d1 e0 e1 n0 n1
        go_wp2_with fail
        go_ret
        exact ⟨rfl, HY5.out.2.2.2.2⟩
theorem walk (ak am bk bm ck cm : Int) (w : World) (_ : (Lit.int .i64 ak).wf = true) (_ : (Lit.int .i64 am).wf = true) (_ : (Lit.int .i64 bk).wf = true) (_ : (Lit.int .i64 bm).wf = true) (_ : (Lit.int .i64 ck).wf = true) (_ : (Lit.int .i64 cm).wf = true)
    (hL : laidMetH Tryd.prog Rows.typOrderRow.laid w) :
    Calls Tryd.prog 7 #[TT ak am, TT bk bm, TT ck cm] w fun e w' => e = .returned (.bool true) ∧ Below w.heap.size w w' :=
  walk_o ak am bk bm ck cm w (utab_of (by kernel_rfl) (by repeat (first | exact List.Mem.head _ | apply List.Mem.tail)) (by repeat (first | exact List.Mem.head _ | apply List.Mem.tail)) hL)
theorem own : ownKnob Tryd.prog.godebug = none := by kernel_rfl
theorem laidOut : laidOutB Tryd.prog = true := by kernel_rfl
theorem door_met (os : Os) (args : Array Value) : laidMetH Tryd.prog Rows.typOrderRow.laid ((World.doorLaid Tryd.prog 24 os).forCall (fun _ _ => 0) ⟨#[], args, []⟩).memory :=
  laidMetH_of_parts3 (fuel := 8) (laidMet_of_run' 8 (by kernel_rfl) (by kernel_rfl)) (by kernel_rfl) (by kernel_rfl)
set_option maxRecDepth 100000 in
theorem lifted (os : Os) (started : os.Started) (H : Type) (enc : TypeId × Value → H) :
    ReturnsInHanded {} Tryd.checked os 7 .any (fun w args => (Rows.typOrderSpec.pre enc Tryd.prog Tryd.f7 [] false w args ∧ laidMetH Tryd.prog Rows.typOrderRow.laid w) ∧ sizedMet enc Tryd.prog Tryd.f7 (OpenSpec.ofChange Rows.typOrderSpec) false w args)
      (Rows.typOrderSpec.post enc Tryd.prog Tryd.f7 false true false false) := by
  refine returnsInHanded_of_change_and (C := Tryd.checked) (X := fun w _ => laidMetH Tryd.prog Rows.typOrderRow.laid w) (fun _ _ _ hh h => h.of_heap hh) own started (by kernel_rfl) Tryd.func7
    (ChangeSpec.witness_shaped (enc := enc) (C := Tryd.checked) (os := os) (X := fun w _ => laidMetH Tryd.prog Rows.typOrderRow.laid w) false (World.doorLaid Tryd.prog 24 os) #[.agg #[.int .i64 0, .int .i64 0], .agg #[.int .i64 0, .int .i64 0], .agg #[.int .i64 0, .int .i64 0]] 8 rfl (World.shaped_of_RefB (by kernel_rfl) (by kernel_rfl)) (by kernel_rfl) (by kernel_rfl) (by kernel_rfl) (door_met os _)) ?_
  intro W base args ds gs before hval0 hW hcnd _ hL _
  have hval : ∀ (j : Nat) t v, Tryd.f7.params[j]? = some t → args[j]? = some v → Value.okWide Tryd.prog W .any base t v := hval0
  have hW' := hW
  obtain ⟨p, q, hA0, hV, rfl, hfz, hnd⟩ := hW
  have hA : DataW.TrodAll enc Tryd.prog W 0 (fun _ => true) true Tryd.f7.params.toList args.toList ds p := hA0
  rw [Tryd.params7] at hA hval
  obtain ⟨v0, vs0, d0, ds0, p0, q0, hargs, rfl, rfl, h0, r0⟩ := trodAll_cons hA
  obtain ⟨v1, vs1, d1, ds1, p1, q1, rfl, rfl, rfl, h1, r1⟩ := trodAll_cons r0
  obtain ⟨v2, vs2, d2, ds2, p2, q2, rfl, rfl, rfl, h2, r2⟩ := trodAll_cons r1
  obtain ⟨rfl, rfl, rfl⟩ := trodAll_nil r2
  obtain rfl : args = #[v0, v1, v2] := by cases args; simp_all
  obtain ⟨rfl, rfl⟩ := trodVars_none hV
  obtain ⟨a0k, a0m, rfl, rfl, rfl, w0k, w0m⟩ := openT (hval 0 23 v0 rfl rfl) h0
  obtain ⟨a1k, a1m, rfl, rfl, rfl, w1k, w1m⟩ := openT (hval 1 23 v1 rfl rfl) h1
  obtain ⟨a2k, a2m, rfl, rfl, rfl, w2k, w2m⟩ := openT (hval 2 23 v2 rfl rfl) h2
  clear hA0 hval0
  refine (walk a0k a0m a1k a1m a2k a2m W w0k w0m w1k w1m w2k w2m hL).mono fun e W' ⟨he, bel⟩ => ?_
  subst he
  exact ⟨_, rfl, _, _, _, [], _, [], hW', trodAll_mk1 (shut_bool Tryd.underlying4 _), (trodAll_cons_mk (shutT _ _ w0k w0m) (trodAll_cons_mk (shutT _ _ w1k w1m) (trodAll_cons_mk (shutT _ _ w2k w2m) trodAll_mk0))), rfl, bel.frame _, fun h => by cases h⟩

theorem over : Rows.TypOrderSaid :=
  OpenClaim.holds_of_wide 7 Tryd.f7 rfl rfl rfl rfl rfl rfl rfl ⟨rfl, rfl, rfl, rfl, rfl⟩ rfl rfl rfl rfl rfl (by kernel_rfl) Tryd.func7 (by kernel_rfl)
    (of_decide_eq_true (by kernel_rfl)) (by unfold Func.isWrapper; first | (rw [if_pos (by decide +kernel)]; kernel_rfl) | (rw [if_neg (by decide +kernel)]; exact ⟨rfl, rfl⟩))
    (fun os started H enc _ => lifted os started H enc)

/-- the given statement: the card -/
theorem proved : Rows.TypOrderCardSaid :=
  Claim7.holds_tied_plain_at .later [] [.data, .data] true (true, "845853d3f8880bdd6136c05de4f38f3bb66592e8b8213e703d0902246d778162") false
    over (fun _ h => by cases h) (by kernel_rfl) (fun _ h => by cases h) typOrder_row_tie rfl ⟨rfl, rfl⟩ (by kernel_rfl) rfl
    (fun f fn hf hfn => by
      obtain rfl : f = 7 := Option.some.inj ((show Tryd.prog.funcNamed "haulage/haulagelaw06.TypOrder" = some 7 by kernel_rfl).symm.trans hf) |>.symm
      obtain rfl : fn = Tryd.f7 := (Option.some.inj (Tryd.func7.symm.trans hfn)).symm
      exact ⟨by kernel_rfl, fun j t ht => by
        rw [Tryd.params7] at ht
        have hm : t ∈ [23, 23, 23] := by simpa using Array.mem_of_getElem? ht
        have hall : ([23, 23, 23].all fun u => !Tryd.prog.wantsStandIn u) = true := by kernel_rfl
        exact (show Tryd.prog.wantsStandIn t = false by simpa using List.all_eq_true.1 hall t hm)⟩)
    (by kernel_rfl)
#print axioms proved
end Go.Proofs.YtlfjkbghgfljaaaDoor.typOrder
