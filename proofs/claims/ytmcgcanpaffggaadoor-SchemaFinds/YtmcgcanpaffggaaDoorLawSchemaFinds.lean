/-
  SchemaFinds: for every two catalogs, every name and every number the law returns true: where any table and any column stands, and whether two are alike, is what the page says. No condition but that the two tables of package utf read as the program's text lays them (tied by the card).
-/
import Derived.Test.YtmcgcanpaffggaaDoorSchSame2C
import Derived.Test.YtmcgcanpaffggaaDoorTie
import Derived.Test.YtmcgcanpaffggaaDoorCards
import Derived.ProofKit
import Derived.OpenShut
import Derived.ShutString
import Derived.ChangeOld
import Derived.LaidMore
import Derived.SevenTiedAt
import Derived.Test.YtmcgcanpaffggaaDoorPart1
import Derived.Test.YtmcgcanpaffggaaDoorPart2
import Derived.Test.YtmcgcanpaffggaaDoorPart3
namespace Go.Proofs.YtmcgcanpaffggaaDoor.schemaFinds
open Go.ChangeShapes Go.WideShapes Go.ChangeAt Go.RowKit
open Go.ChangeMaps (open_string shut_string)

theorem neq_same (b : Bool) : (b != b) = false := by cases b <;> rfl
/-- a pair that a find returns and the document's own number -/
theorem found_as (o : Option Nat) (i z : Int) (b : Bool) (w : World) (ho : ∀ k, o = some k → k ≤ 1000000) (hi : ((o.getD 0 : Nat) : Int) = i) (hb : o.isSome = b) (hz : idxI o = z) :
    Calls Tryd.prog 19 #[.int .i64 i, .bool b, .int .i64 z] w fun e w' => e = .returned (.bool true) ∧ Below w.heap.size w w' := by
  subst hi hb hz
  exact below_of_same (found_any o w ho)
theorem fstV_as (o : Option Nat) : ∃ (i z : Int) (b : Bool), fstV o = .tuple #[.int .i64 i, .bool b] ∧ ((o.getD 0 : Nat) : Int) = i ∧ o.isSome = b ∧ idxI o = z := ⟨_, _, _, rfl, rfl, rfl, rfl⟩
theorem find_le {α : Type} {p : α → Bool} {l : List α} (hl : l.length ≤ 1000000) : ∀ k, l.findIdx? p = some k → k ≤ 1000000 := fun k h => by have := find_lt h; omega
set_option maxRecDepth 100000 in
set_option maxHeartbeats 6400000 in
theorem walk_t (A : Option Addr) (cap : Nat) (l : List Tb) (A2 : Option Addr) (cap2 : Nat) (l2 : List Tb) (s : ByteArray) (id : Int) (w : World) (hin : TabsIn w A cap l) (hin2 : TabsIn w A2 cap2 l2) (ht : UTab w) :
    Calls Tryd.prog 4 #[.agg #[.slice A l.length cap], .agg #[.slice A2 l2.length cap2], .string s, .int .i64 id] w fun e w' => e = .returned (.bool true) ∧ Below w.heap.size w w' := by
  obtain ⟨w0, hw0, hb0, hU, hV, hs0⟩ := box_two w (.slice A l.length cap) (.slice A2 l2.length cap2) 24
  have Hw0 := Lib.hid hw0; clear hw0
  have Hb0 := Lib.hid hb0
  have HA := Lib.hid (hin.2.2.1.to hb0)
  have HA2 := Lib.hid (hin2.2.2.1.to hb0)
  have HT := Lib.hid (ht.below hb0 (Nat.le_refl _)); clear ht hb0
  have HU := Lib.hid hU; clear hU
  have HV := Lib.hid hV; clear hV
  have Hs0 := Lib.hid hs0; clear hs0
  have HIn := Lib.hid hin; clear hin
  have HIn2 := Lib.hid hin2; clear hin2
  have HLv := Lib.hid (lives8_any w0 HT.out)
  rw [← Hw0.out] at HLv
  have HFw := Lib.hid (fun w' hA' => fewcat_any A cap l w' hA' HIn.out.1 (fun t ht => (HIn.out.2.2.2 t ht).2.2.2.2.1))
  have HFw2 := Lib.hid (fun w' hA' => fewcat_any A2 cap2 l2 w' hA' HIn2.out.1 (fun t ht => (HIn2.out.2.2.2 t ht).2.2.2.2.1))
  have HSh := Lib.hid (fun w' => short8_any s w')
  cases hf : fewCat l
  · rw [hf] at HFw
    clear hf
    go_enter Tryd.func4, Tryd.ntmps4
    go_wp2_with fail
    refine HLv.out.mono ?_
    rintro e w1 ⟨rfl, hb1⟩
    rw [Hw0.out] at hb1
    have Hb1 := Lib.hid hb1
    have u0 : w1.cell? ⟨w.heap.size, 0, none⟩ = some (.slice A l.length cap) := (hb1.cell (by have := Hs0.out; simp; omega)).trans HU.out
    clear hb1
    go_wp2_with fail
    refine (HFw.out w1 (HA.out.to Hb1.out)).mono ?_
    rintro e w2 ⟨rfl, hb2⟩
    have Hb2 := Lib.hid (bthen Hb1.out hb2); clear hb2 u0
    go_wp2_with fail
    go_ret
    exact ⟨rfl, bthen Hb0.out Hb2.out⟩
  rw [hf] at HFw
  cases hf2 : fewCat l2
  · rw [hf2] at HFw2
    clear hf hf2
    go_enter Tryd.func4, Tryd.ntmps4
    go_wp2_with fail
    refine HLv.out.mono ?_
    rintro e w1 ⟨rfl, hb1⟩
    rw [Hw0.out] at hb1
    have Hb1 := Lib.hid hb1
    have u0 : w1.cell? ⟨w.heap.size, 0, none⟩ = some (.slice A l.length cap) := (hb1.cell (by have := Hs0.out; simp; omega)).trans HU.out
    clear hb1
    go_wp2_with fail
    refine (HFw.out w1 (HA.out.to Hb1.out)).mono ?_
    rintro e w2 ⟨rfl, hb2⟩
    have Hb2 := Lib.hid (bthen Hb1.out hb2); clear hb2 u0
    have v0 : w2.cell? ⟨w.heap.size + 1, 0, none⟩ = some (.slice A2 l2.length cap2) := (Hb2.out.cell (by have := Hs0.out; simp; omega)).trans HV.out
    go_wp2_with fail
    refine (HFw2.out w2 (HA2.out.to Hb2.out)).mono ?_
    rintro e w3 ⟨rfl, hb3⟩
    have Hb3 := Lib.hid (bthen Hb2.out hb3); clear hb3 v0
    go_wp2_with fail
    go_ret
    exact ⟨rfl, bthen Hb0.out Hb3.out⟩
  rw [hf2] at HFw2
  cases hsh : shortB s
  · rw [hsh] at HSh
    clear hf hf2 hsh
    go_enter Tryd.func4, Tryd.ntmps4
    go_wp2_with fail
    refine HLv.out.mono ?_
    rintro e w1 ⟨rfl, hb1⟩
    rw [Hw0.out] at hb1
    have Hb1 := Lib.hid hb1
    have u0 : w1.cell? ⟨w.heap.size, 0, none⟩ = some (.slice A l.length cap) := (hb1.cell (by have := Hs0.out; simp; omega)).trans HU.out
    clear hb1
    go_wp2_with fail
    refine (HFw.out w1 (HA.out.to Hb1.out)).mono ?_
    rintro e w2 ⟨rfl, hb2⟩
    have Hb2 := Lib.hid (bthen Hb1.out hb2); clear hb2 u0
    have v0 : w2.cell? ⟨w.heap.size + 1, 0, none⟩ = some (.slice A2 l2.length cap2) := (Hb2.out.cell (by have := Hs0.out; simp; omega)).trans HV.out
    go_wp2_with fail
    refine (HFw2.out w2 (HA2.out.to Hb2.out)).mono ?_
    rintro e w3 ⟨rfl, hb3⟩
    have Hb3 := Lib.hid (bthen Hb2.out hb3); clear hb3 v0
    go_wp2_with fail
    refine (HSh.out _).mono ?_
    rintro e w4 ⟨rfl, rfl⟩
    go_wp2_with fail
    go_ret
    exact ⟨rfl, bthen Hb0.out Hb3.out⟩
  rw [hsh] at HSh
  have hf' := hf
  unfold fewCat at hf'
  simp only [Bool.and_eq_true, decide_eq_true_eq, List.all_eq_true] at hf'
  have hlen : l.length ≤ 10 := by omega
  have HWf : Hid (∀ t ∈ l, WfT t) := fun t ht => WfT_of (hf'.2 t ht) (HIn.out.2.2.2 t ht)
  have hf2' := hf2
  unfold fewCat at hf2'
  simp only [Bool.and_eq_true, decide_eq_true_eq, List.all_eq_true] at hf2'
  have hlen2 : l2.length ≤ 10 := by omega
  have HWf2 : Hid (∀ t ∈ l2, WfT t) := fun t ht => WfT_of (hf2'.2 t ht) (HIn2.out.2.2.2 t ht)
  clear hf hf' hf2 hf2' hsh
  go_enter Tryd.func4, Tryd.ntmps4
  go_wp2_with fail
  refine HLv.out.mono ?_
  rintro e w1 ⟨rfl, hb1⟩
  rw [Hw0.out] at hb1
  have Hb1 := Lib.hid hb1
  have u0 : w1.cell? ⟨w.heap.size, 0, none⟩ = some (.slice A l.length cap) := (hb1.cell (by have := Hs0.out; simp; omega)).trans HU.out
  clear hb1
  go_wp2_with fail
  refine (HFw.out w1 (HA.out.to Hb1.out)).mono ?_
  rintro e w2 ⟨rfl, hb2⟩
  have Hb2 := Lib.hid (bthen Hb1.out hb2); clear hb2 u0
  have v0 : w2.cell? ⟨w.heap.size + 1, 0, none⟩ = some (.slice A2 l2.length cap2) := (Hb2.out.cell (by have := Hs0.out; simp; omega)).trans HV.out
  go_wp2_with fail
  refine (HFw2.out w2 (HA2.out.to Hb2.out)).mono ?_
  rintro e w3 ⟨rfl, hb3⟩
  have Hb3 := Lib.hid (bthen Hb2.out hb3); clear hb3 v0
  go_wp2_with fail
  refine (HSh.out _).mono ?_
  rintro e w4 ⟨rfl, rfl⟩
  have u0 : w3.cell? ⟨w.heap.size, 0, none⟩ = some (.slice A l.length cap) := (Hb3.out.cell (by have := Hs0.out; simp; omega)).trans HU.out
  clear HLv HFw HFw2 HSh
  go_wp2_with fail
  refine (sfind_any A cap l s w3 (HA.out.to Hb3.out) (by omega)).mono ?_
  rintro e w5 ⟨rfl, hb5⟩
  have Hb5 := Lib.hid (bthen Hb3.out hb5); clear hb5 u0
  obtain ⟨i1, z1, q1, hq1, hi1, hs1, hz1⟩ := fstV_as (l.findIdx? fun x => eqS x.nm s)
  have HF1 := Lib.hid (fun w' => found_as (l.findIdx? fun x => eqS x.nm s) i1 z1 q1 w' (find_le (by omega)) hi1 hs1 hz1)
  rw [hq1]
  have HZ1 := Lib.hid hz1
  clear hq1 hi1 hs1 hz1
  have u0 : w5.cell? ⟨w.heap.size, 0, none⟩ = some (.slice A l.length cap) := (Hb5.out.cell (by have := Hs0.out; simp; omega)).trans HU.out
  go_wp2_with fail
  refine (sbyId_any A cap l id w5 (HA.out.to Hb5.out) (by omega)).mono ?_
  rintro e w6 ⟨rfl, hb6⟩
  have Hb6 := Lib.hid (bthen Hb5.out hb6); clear hb6 u0
  obtain ⟨i2, z2, q2, hq2, hi2, hs2, hz2⟩ := fstV_as (l.findIdx? fun x => x.id == id)
  have HF2 := Lib.hid (fun w' => found_as (l.findIdx? fun x => x.id == id) i2 z2 q2 w' (find_le (by omega)) hi2 hs2 hz2)
  rw [hq2]
  have HZ2 := Lib.hid hz2
  clear hq2 hi2 hs2 hz2
  have hne : Nonempty (BelowBy w6.heap.size w6) := ⟨⟨w6, Below.refl _ _⟩⟩
  have U0 : ∀ p : BelowBy w6.heap.size w6, p.x.cell? ⟨w.heap.size, 0, none⟩ = some (.slice A l.length cap) := fun p => (p.h.cell (by have := Hs0.out; have := Hb6.out.size; simp; omega)).trans ((Hb6.out.cell (by have := Hs0.out; simp; omega)).trans HU.out)
  have V0 : ∀ p : BelowBy w6.heap.size w6, p.x.cell? ⟨w.heap.size + 1, 0, none⟩ = some (.slice A2 l2.length cap2) := fun p => (p.h.cell (by have := Hs0.out; have := Hb6.out.size; simp; omega)).trans ((Hb6.out.cell (by have := Hs0.out; simp; omega)).trans HV.out)
  have HA6 := Lib.hid (HA.out.to Hb6.out)
  have HA26 := Lib.hid (HA2.out.to Hb6.out)
  have HR1 : Hid (∀ w', Below w6.heap.size w6 w' → Calls Tryd.prog 20 #[.agg #[.slice A l.length cap], .string s] w' fun e w2 => e = .returned (.int .i64 z1) ∧ Below w'.heap.size w' w2) := fun w' hb' => by
    have := rfind_any A cap l s w' (HA6.out.to hb') (by omega)
    rwa [HZ1.out] at this
  have HR2 : Hid (∀ w', Below w6.heap.size w6 w' → Calls Tryd.prog 21 #[.agg #[.slice A l.length cap], .int .i64 id] w' fun e w2 => e = .returned (.int .i64 z2) ∧ Below w'.heap.size w' w2) := fun w' hb' => by
    have := rbyId_any A cap l id w' (HA6.out.to hb') (by omega)
    rwa [HZ2.out] at this
  have HS1 := Lib.hid (fun w' (hb' : Below w6.heap.size w6 w') => samecat_any A A2 cap cap2 l l2 w' (HA6.out.to hb') (HA26.out.to hb') (by omega) (by omega) HWf.out HWf2.out)
  have HS2 := Lib.hid (fun w' (hb' : Below w6.heap.size w6 w') => rsamecat_any A A2 cap cap2 l l2 w' (HA6.out.to hb') (HA26.out.to hb') (by omega) (by omega) HWf.out HWf2.out)
  have HS3 : Hid (∀ w', Below w6.heap.size w6 w' → Calls Tryd.prog 22 #[.agg #[.slice A l.length cap], .agg #[.slice A l.length cap]] w' fun e w2 => e = .returned (.bool true) ∧ Below w'.heap.size w' w2) := fun w' hb' => by
    have := samecat_any A A cap cap l l w' (HA6.out.to hb') (HA6.out.to hb') (by omega) (by omega) HWf.out HWf.out
    rwa [pair_self sameT_self] at this
  generalize tf (Pair sameT l l2) = r at HS1 HS2
  have hrr := neq_same r
  go_wp2_with fail
  refine wp_region_below w6.heap.size (by kernel_rfl) (by kernel_rfl) ?_
  repeat (
    with_reducible refine wpQuiet_step (fun K hK => ?_)
    go_simp
    refine hK _ ?_
    clear hK K)
  with_reducible refine wpQuiet_step (fun K hK => ?_)
  go_simp
  apply Exists.intro
  refine ⟨fun p => ?_, hK _ ?_⟩
  exact (HR1.out _ p.h).mono fun e w5 ⟨he, hb⟩ => ⟨he, p.step (Nat.le_refl _) hb⟩
  clear hK K
  repeat (
    with_reducible refine wpQuiet_step (fun K hK => ?_)
    go_simp
    refine hK _ ?_
    clear hK K)
  with_reducible refine wpQuiet_step (fun K hK => ?_)
  go_simp
  apply Exists.intro
  refine ⟨fun p => ?_, hK _ ?_⟩
  exact (HF1.out _).mono fun e w5 ⟨he, hb⟩ => ⟨he, p.step (Nat.le_refl _) hb⟩
  clear hK K
  repeat (
    with_reducible refine wpQuiet_step (fun K hK => ?_)
    go_simp
    refine hK _ ?_
    clear hK K)
  with_reducible refine wpQuiet_step (fun K hK => ?_)
  go_simp
  apply Exists.intro
  refine ⟨fun p => ?_, hK _ ?_⟩
  exact (HR2.out _ p.h).mono fun e w5 ⟨he, hb⟩ => ⟨he, p.step (Nat.le_refl _) hb⟩
  clear hK K
  repeat (
    with_reducible refine wpQuiet_step (fun K hK => ?_)
    go_simp
    refine hK _ ?_
    clear hK K)
  with_reducible refine wpQuiet_step (fun K hK => ?_)
  go_simp
  apply Exists.intro
  refine ⟨fun p => ?_, hK _ ?_⟩
  exact (HF2.out _).mono fun e w5 ⟨he, hb⟩ => ⟨he, p.step (Nat.le_refl _) hb⟩
  clear hK K
  repeat (
    with_reducible refine wpQuiet_step (fun K hK => ?_)
    go_simp
    refine hK _ ?_
    clear hK K)
  with_reducible refine wpQuiet_step (fun K hK => ?_)
  go_simp
  apply Exists.intro
  refine ⟨fun p => ?_, hK _ ?_⟩
  exact (HS1.out _ p.h).mono fun e w5 ⟨he, hb⟩ => ⟨he, p.step (Nat.le_refl _) hb⟩
  clear hK K
  repeat (
    with_reducible refine wpQuiet_step (fun K hK => ?_)
    go_simp
    refine hK _ ?_
    clear hK K)
  with_reducible refine wpQuiet_step (fun K hK => ?_)
  go_simp
  apply Exists.intro
  refine ⟨fun p => ?_, hK _ ?_⟩
  exact (HS2.out _ p.h).mono fun e w5 ⟨he, hb⟩ => ⟨he, p.step (Nat.le_refl _) hb⟩
  clear hK K
  repeat (
    with_reducible refine wpQuiet_step (fun K hK => ?_)
    go_simp
    refine hK _ ?_
    clear hK K)
  with_reducible refine wpQuiet_step (fun K hK => ?_)
  go_simp
  apply Exists.intro
  refine ⟨fun p => ?_, hK _ ?_⟩
  exact (HS3.out _ p.h).mono fun e w5 ⟨he, hb⟩ => ⟨he, p.step (Nat.le_refl _) hb⟩
  clear hK K
  repeat (
    with_reducible refine wpQuiet_step (fun K hK => ?_)
    go_simp
    refine hK _ ?_
    clear hK K)
  refine wpQuiet_nil ?_
  rintro _ ⟨p, rfl⟩
  go_wp2_with fail
  have Hp := Lib.hid (bthen Hb6.out p.h)
  clear hne U0 V0 HR1 HR2 HF1 HF2 HS1 HS2 HS3 hrr HZ1 HZ2
  go_loopw [13] (fun i wr => ∃ k : Nat, k ≤ l.length ∧ i = .int .i64 k ∧ Hid (Below w0.heap.size w0 wr)) (fun i _ => l.length - (intOf i).toNat)
  case atStart => exact ⟨0, by omega, rfl, Hp.out⟩
  case round =>
    obtain ⟨k, hk, rfl, hb⟩ := hrel
    have Hbw := Lib.hid (bthen Hb0.out hb.out)
    have u0 : wr.cell? ⟨w.heap.size, 0, none⟩ = some (.slice A l.length cap) := (hb.out.cell (by have := Hs0.out; simp; omega)).trans HU.out
    by_cases hlt : k < l.length
    · obtain ⟨x, hx⟩ : ∃ x, l[k]? = some x := ⟨l[k], by simp [hlt]⟩
      have Hxm := Lib.hid (List.mem_of_getElem? hx)
      obtain ⟨b, off, hAe, hbB, d0, d1, d2, d3, d4⟩ := (HA.out.below hb.out).get k x hx
      rw [hAe] at u0
      clear hx hAe
      obtain ⟨w7, hw7, hb7, hX, hs7⟩ := box_tab wr x
      have Hw7 := Lib.hid hw7; clear hw7
      have Hs7 := Lib.hid hs7; clear hs7
      have HX := Lib.hid hX; clear hX
      have Hb7 := Lib.hid (bthen hb.out hb7); clear hb7
      have HTab := Lib.hid (fun w' (hb' : Below w7.heap.size w7 w') => ((HA.out.to Hb7.out).to hb').2 x Hxm.out)
      have Hxl : Hid (x.cols.length ≤ 1000000) := (HWf.out x Hxm.out).2.1
      have HC1 := Lib.hid (scol_any x s w7 (HTab.out w7 (Below.refl _ _)) Hxl.out)
      rw [← Hw7.out] at HC1
      go_wp2_with fail
      refine HC1.out.mono ?_
      rintro e w8 ⟨rfl, hb8⟩
      rw [Hw7.out] at hb8
      have Hb8 := Lib.hid hb8; clear hb8
      obtain ⟨i1, z1, q1, hq1, hi1, hs1, hz1⟩ := fstV_as (colI x s)
      have HF1 := Lib.hid (fun w' => found_as (colI x s) i1 z1 q1 w' (find_le Hxl.out) hi1 hs1 hz1)
      rw [hq1]
      have HZ1 := Lib.hid hz1
      clear hq1 hi1 hs1 hz1
      obtain ⟨x0, x1, x2, x3, x4⟩ := (HX.out.below Hb8.out (by have := Hs7.out; omega)).tab
      go_wp2_with fail
      refine (skey_any x w8 (HTab.out w8 Hb8.out) Hxl.out).mono ?_
      rintro e w9 ⟨rfl, hb9⟩
      have Hb9 := Lib.hid (bthen Hb8.out hb9); clear hb9 x0 x1 x2 x3 x4
      obtain ⟨i2, z2, q2, hq2, hi2, hs2, hz2⟩ := fstV_as (x.cols.findIdx? fun c => c.id == x.key)
      have HF2 := Lib.hid (fun w' => found_as (x.cols.findIdx? fun c => c.id == x.key) i2 z2 q2 w' (find_le Hxl.out) hi2 hs2 hz2)
      rw [hq2]
      have HZ2 := Lib.hid hz2
      clear hq2 hi2 hs2 hz2
      obtain ⟨x0, x1, x2, x3, x4⟩ := (HX.out.below Hb9.out (by have := Hs7.out; omega)).tab
      have HR1 := Lib.hid (rcolI_any x s w9 (HTab.out w9 Hb9.out) Hxl.out)
      rw [HZ1.out] at HR1
      go_wp2_with fail
      refine HR1.out.mono ?_
      rintro e w10 ⟨rfl, hb10⟩
      have Hb10 := Lib.hid (bthen Hb9.out hb10); clear hb10
      go_wp2_with fail
      refine (HF1.out _).mono ?_
      rintro e w11 ⟨rfl, hb11⟩
      have Hb11 := Lib.hid (bthen Hb10.out hb11); clear hb11 x0 x1 x2 x3 x4
      obtain ⟨x0, x1, x2, x3, x4⟩ := (HX.out.below Hb11.out (by have := Hs7.out; omega)).tab
      have HR2 := Lib.hid (rkeyI_any x w11 (HTab.out w11 Hb11.out) Hxl.out)
      rw [HZ2.out] at HR2
      go_wp2_with fail
      refine HR2.out.mono ?_
      rintro e w12 ⟨rfl, hb12⟩
      have Hb12 := Lib.hid (bthen Hb11.out hb12); clear hb12
      go_wp2_with fail
      refine (HF2.out _).mono ?_
      rintro e w13 ⟨rfl, hb13⟩
      have Hb13 := Lib.hid (bthen Hb12.out hb13)
      have Hbw13 := Lib.hid (bthen Hb7.out Hb13.out); clear hb13 x0 x1 x2 x3 x4
      have hne : Nonempty (BelowBy w13.heap.size w13) := ⟨⟨w13, Below.refl _ _⟩⟩
      have X0 : ∀ p : BelowBy w13.heap.size w13, p.x.cell? ⟨wr.heap.size, 0, none⟩ = some (.int .i64 x.id) := fun p => (p.h.cell (by have := Hs7.out; have := Hb13.out.size; simp; omega)).trans ((Hb13.out.cell (by have := Hs7.out; simp; omega)).trans (HX.out 0 _ rfl))
      have X1 : ∀ p : BelowBy w13.heap.size w13, p.x.cell? ⟨wr.heap.size, 1, none⟩ = some (.string x.nm) := fun p => (p.h.cell (by have := Hs7.out; have := Hb13.out.size; simp; omega)).trans ((Hb13.out.cell (by have := Hs7.out; simp; omega)).trans (HX.out 1 _ rfl))
      have X2 : ∀ p : BelowBy w13.heap.size w13, p.x.cell? ⟨wr.heap.size, 2, none⟩ = some (.int .i64 x.key) := fun p => (p.h.cell (by have := Hs7.out; have := Hb13.out.size; simp; omega)).trans ((Hb13.out.cell (by have := Hs7.out; simp; omega)).trans (HX.out 2 _ rfl))
      have X3 : ∀ p : BelowBy w13.heap.size w13, p.x.cell? ⟨wr.heap.size, 3, none⟩ = some (.int .i64 x.nx) := fun p => (p.h.cell (by have := Hs7.out; have := Hb13.out.size; simp; omega)).trans ((Hb13.out.cell (by have := Hs7.out; simp; omega)).trans (HX.out 3 _ rfl))
      have X4 : ∀ p : BelowBy w13.heap.size w13, p.x.cell? ⟨wr.heap.size, 4, none⟩ = some (.slice x.A x.cols.length x.cap) := fun p => (p.h.cell (by have := Hs7.out; have := Hb13.out.size; simp; omega)).trans ((Hb13.out.cell (by have := Hs7.out; simp; omega)).trans (HX.out 4 _ rfl))
      have hV13 : w13.cell? ⟨w.heap.size + 1, 0, none⟩ = some (.slice A2 l2.length cap2) := (Hbw13.out.cell (by have := Hs0.out; simp; omega)).trans HV.out
      have hk0 : (0 : Int) ≤ (k : Int) := by omega
      by_cases hlt2 : k < l2.length
      · obtain ⟨y, hy⟩ : ∃ y, l2[k]? = some y := ⟨l2[k], by simp [hlt2]⟩
        have Hym := Lib.hid (List.mem_of_getElem? hy)
        obtain ⟨b2, off2, hAe2, hbB2, f0, f1, f2, f3, f4⟩ := ((HA2.out.to Hbw13.out)).get k y hy
        rw [hAe2] at hV13
        have V0 : ∀ p : BelowBy w13.heap.size w13, p.x.cell? ⟨w.heap.size + 1, 0, none⟩ = some (.slice (some ⟨b2, off2, none⟩) l2.length cap2) := fun p => (p.h.cell (by have := Hs0.out; have := Hbw13.out.size; simp; omega)).trans hV13
        have Y0 : ∀ p : BelowBy w13.heap.size w13, p.x.cell? ⟨b2, off2 + k * 5, none⟩ = some (.int .i64 y.id) := fun p => (p.h.cell hbB2).trans f0
        have Y1 : ∀ p : BelowBy w13.heap.size w13, p.x.cell? ⟨b2, off2 + k * 5 + 1, none⟩ = some (.string y.nm) := fun p => (p.h.cell hbB2).trans f1
        have Y2 : ∀ p : BelowBy w13.heap.size w13, p.x.cell? ⟨b2, off2 + k * 5 + 2, none⟩ = some (.int .i64 y.key) := fun p => (p.h.cell hbB2).trans f2
        have Y3 : ∀ p : BelowBy w13.heap.size w13, p.x.cell? ⟨b2, off2 + k * 5 + 3, none⟩ = some (.int .i64 y.nx) := fun p => (p.h.cell hbB2).trans f3
        have Y4 : ∀ p : BelowBy w13.heap.size w13, p.x.cell? ⟨b2, off2 + k * 5 + 4, none⟩ = some (.slice y.A y.cols.length y.cap) := fun p => (p.h.cell hbB2).trans f4
        clear hV13 hy hAe2 f0 f1 f2 f3 f4
        have HS1 := Lib.hid (fun w' (hb' : Below w13.heap.size w13 w') => sametab_any x y w' (HTab.out w' (bthen Hb13.out hb')) (((HA2.out.to Hbw13.out).to hb').2 y Hym.out) Hxl.out (HWf2.out y Hym.out).2.1)
        have HS2 := Lib.hid (fun w' (hb' : Below w13.heap.size w13 w') => rsametab_any x y w' (HTab.out w' (bthen Hb13.out hb')) (((HA2.out.to Hbw13.out).to hb').2 y Hym.out) Hxl.out (HWf2.out y Hym.out).2.1)
        generalize sameT x y = r at HS1 HS2
        have hrr := neq_same r
        go_wp2_with fail
        refine wp_region_below w13.heap.size (by kernel_rfl) (by kernel_rfl) ?_
        repeat (
          with_reducible refine wpQuiet_step (fun K hK => ?_)
          go_simp
          refine hK _ ?_
          clear hK K)
        with_reducible refine wpQuiet_step (fun K hK => ?_)
        go_simp
        apply Exists.intro
        refine ⟨fun p => ?_, hK _ ?_⟩
        exact (HS1.out _ p.h).mono fun e w5 ⟨he, hb⟩ => ⟨he, p.step (Nat.le_refl _) hb⟩
        clear hK K
        repeat (
          with_reducible refine wpQuiet_step (fun K hK => ?_)
          go_simp
          refine hK _ ?_
          clear hK K)
        with_reducible refine wpQuiet_step (fun K hK => ?_)
        go_simp
        apply Exists.intro
        refine ⟨fun p => ?_, hK _ ?_⟩
        exact (HS2.out _ p.h).mono fun e w5 ⟨he, hb⟩ => ⟨he, p.step (Nat.le_refl _) hb⟩
        clear hK K
        repeat (
          with_reducible refine wpQuiet_step (fun K hK => ?_)
          go_simp
          refine hK _ ?_
          clear hK K)
        refine wpQuiet_nil ?_
        rintro _ ⟨p, rfl⟩
        go_wp2_with fail
        go_roundw
        case rel => exact ⟨k + 1, by omega, by go_num, bthen Hbw13.out p.h⟩
        case measure => simp [intOf]; omega
      · have V0 : ∀ p : BelowBy w13.heap.size w13, p.x.cell? ⟨w.heap.size + 1, 0, none⟩ = some (.slice A2 l2.length cap2) := fun p => (p.h.cell (by have := Hs0.out; have := Hbw13.out.size; simp; omega)).trans hV13
        have dk : decide ((k : Int) < (l2.length : Int)) = false := by simp; omega
        go_wp2_with fail
        refine wp_region_below w13.heap.size (by kernel_rfl) (by kernel_rfl) ?_
        repeat (
          with_reducible refine wpQuiet_step (fun K hK => ?_)
          go_simp
          refine hK _ ?_
          clear hK K)
        refine wpQuiet_nil ?_
        rintro _ ⟨p, rfl⟩
        go_wp2_with fail
        go_roundw
        case rel => exact ⟨k + 1, by omega, by go_num, bthen Hbw13.out p.h⟩
        case measure => simp [intOf]; omega
    · go_wp2_with fail
      go_ret
      exact ⟨rfl, Hbw.out⟩
theorem walk (A : Option Addr) (cap : Nat) (l : List Tb) (A2 : Option Addr) (cap2 : Nat) (l2 : List Tb) (s : ByteArray) (id : Int) (w : World) (hin : TabsIn w A cap l) (hin2 : TabsIn w A2 cap2 l2) (_ : s.size ≤ maxLen) (_ : (Lit.int .i64 id).wf = true) (hL : laidMetH Tryd.prog Rows.schemaFindsRow.laid w) :
    Calls Tryd.prog 4 #[.agg #[.slice A l.length cap], .agg #[.slice A2 l2.length cap2], .string s, .int .i64 id] w fun e w' => e = .returned (.bool true) ∧ Below w.heap.size w w' :=
  walk_t A cap l A2 cap2 l2 s id w hin hin2 (utab_of (by kernel_rfl) (by repeat (first | exact List.Mem.head _ | apply List.Mem.tail)) (by repeat (first | exact List.Mem.head _ | apply List.Mem.tail)) hL)
theorem own : ownKnob Tryd.prog.godebug = none := by kernel_rfl
theorem laidOut : laidOutB Tryd.prog = true := by kernel_rfl
theorem door_met (os : Os) (args : Array Value) : laidMetH Tryd.prog Rows.schemaFindsRow.laid ((World.doorLaid Tryd.prog 19 os).forCall (fun _ _ => 0) ⟨#[], args, []⟩).memory :=
  laidMetH_of_parts3 (fuel := 8) (laidMet_of_run' 8 (by kernel_rfl) (by kernel_rfl)) (by kernel_rfl) (by kernel_rfl)
set_option maxRecDepth 100000 in
theorem lifted (os : Os) (started : os.Started) (H : Type) (enc : TypeId × Value → H) :
    ReturnsInHanded {} Tryd.checked os 4 .any (fun w args => (Rows.schemaFindsSpec.pre enc Tryd.prog Tryd.f4 [] false w args ∧ laidMetH Tryd.prog Rows.schemaFindsRow.laid w) ∧ sizedMet enc Tryd.prog Tryd.f4 (OpenSpec.ofChange Rows.schemaFindsSpec) false w args)
      (Rows.schemaFindsSpec.post enc Tryd.prog Tryd.f4 false true false false) := by
  refine returnsInHanded_of_change_and (C := Tryd.checked) (X := fun w _ => laidMetH Tryd.prog Rows.schemaFindsRow.laid w) (fun _ _ _ hh h => h.of_heap hh) own started (by kernel_rfl) Tryd.func4
    (ChangeSpec.witness_shaped (enc := enc) (C := Tryd.checked) (os := os) (X := fun w _ => laidMetH Tryd.prog Rows.schemaFindsRow.laid w) false (World.doorLaid Tryd.prog 19 os) #[.agg #[.slice none 0 0], .agg #[.slice none 0 0], .string ByteArray.empty, .int .i64 0] 8 rfl (World.shaped_of_RefB (by kernel_rfl) (by kernel_rfl)) (by kernel_rfl) (by kernel_rfl) (by kernel_rfl) (door_met os _)) ?_
  intro W base args ds gs before hval0 hW hcnd _ hL _
  have hval : ∀ (j : Nat) t v, Tryd.f4.params[j]? = some t → args[j]? = some v → Value.okWide Tryd.prog W .any base t v := hval0
  have hW' := hW
  obtain ⟨p, q, hA0, hV, rfl, hfz, hnd⟩ := hW
  have hA : DataW.TrodAll enc Tryd.prog W 0 (fun _ => true) true Tryd.f4.params.toList args.toList ds p := hA0
  rw [Tryd.params4] at hA hval
  obtain ⟨v0, vs0, d0, ds0, p0, q0, hargs, rfl, rfl, h0, r0⟩ := trodAll_cons hA
  obtain ⟨v1, vs1, d1, ds1, p1, q1, rfl, rfl, rfl, h1, r1⟩ := trodAll_cons r0
  obtain ⟨v2, vs2, d2, ds2, p2, q2, rfl, rfl, rfl, h2, r2⟩ := trodAll_cons r1
  obtain ⟨v3, vs3, d3, ds3, p3, q3, rfl, rfl, rfl, h3, r3⟩ := trodAll_cons r2
  obtain ⟨rfl, rfl, rfl⟩ := trodAll_nil r3
  obtain rfl : args = #[v0, v1, v2, v3] := by cases args; simp_all
  obtain ⟨rfl, rfl⟩ := trodVars_none hV
  have k0 := h0
  have lt0 : ∀ x ∈ p0, x.block < W.heap.size := by obtain ⟨m, hm⟩ := k0; exact DataW.trod_lt m _ _ _ hm
  obtain ⟨a0, cap0, l0, rfl, w0⟩ := openCat (hval 0 24 v0 rfl rfl) h0
  have k1 := h1
  have lt1 : ∀ x ∈ p1, x.block < W.heap.size := by obtain ⟨m, hm⟩ := k1; exact DataW.trod_lt m _ _ _ hm
  obtain ⟨a1, cap1, l1, rfl, w1⟩ := openCat (hval 1 24 v1 rfl rfl) h1
  obtain ⟨a2, rfl, rfl, rfl, w2⟩ := open_string Tryd.underlying9 (hval 2 9 v2 rfl rfl) h2
  obtain ⟨a3, rfl, rfl, rfl, w3⟩ := open_int Tryd.underlying3 (hval 3 3 v3 rfl rfl) h3
  clear hA0 hval0
  refine (walk a0 cap0 l0 a1 cap1 l1 a2 a3 W w0 w1 w2 w3 hL).mono fun e W' ⟨he, bel⟩ => ?_
  subst he
  exact ⟨_, rfl, _, _, _, [], _, [], hW', trodAll_mk1 (shut_bool Tryd.underlying4 _), (trodAll_cons_mk (Below.trod laidOut (by kernel_rfl) (of_decide_eq_true (by kernel_rfl)) k0 bel lt0) (trodAll_cons_mk (Below.trod laidOut (by kernel_rfl) (of_decide_eq_true (by kernel_rfl)) k1 bel lt1) (trodAll_cons_mk (shut_string Tryd.underlying9 w2) (trodAll_cons_mk (shut_int Tryd.underlying3 w3) trodAll_mk0)))), rfl, bel.frame _, fun h => by cases h⟩

theorem over : Rows.SchemaFindsSaid :=
  OpenClaim.holds_of_wide 4 Tryd.f4 rfl rfl rfl rfl rfl rfl rfl ⟨rfl, rfl, rfl, rfl, rfl⟩ rfl rfl rfl rfl rfl (by kernel_rfl) Tryd.func4 (by kernel_rfl)
    (of_decide_eq_true (by kernel_rfl)) (by unfold Func.isWrapper; first | (rw [if_pos (by decide +kernel)]; kernel_rfl) | (rw [if_neg (by decide +kernel)]; exact ⟨rfl, rfl⟩))
    (fun os started H enc _ => lifted os started H enc)

/-- the given statement: the card -/
theorem proved : Rows.SchemaFindsCardSaid :=
  Claim7.holds_tied_plain_at .later [] [.data, .data] true (true, "8a3afc4f22ed179eb0e7e12e38245cf003443ba904eea1b9a5bcb5b530c2a6ef") false
    over (fun _ h => by cases h) (by kernel_rfl) (fun _ h => by cases h) schemaFinds_row_tie rfl ⟨rfl, rfl⟩ (by kernel_rfl) rfl
    (fun f fn hf hfn => by
      obtain rfl : f = 4 := Option.some.inj ((show Tryd.prog.funcNamed "haulage/haulagelaw08.SchemaFinds" = some 4 by kernel_rfl).symm.trans hf) |>.symm
      obtain rfl : fn = Tryd.f4 := (Option.some.inj (Tryd.func4.symm.trans hfn)).symm
      exact ⟨by kernel_rfl, fun j t ht => by
        rw [Tryd.params4] at ht
        have hm : t ∈ [24, 24, 9, 3] := by simpa using Array.mem_of_getElem? ht
        have hall : ([24, 24, 9, 3].all fun u => !Tryd.prog.wantsStandIn u) = true := by kernel_rfl
        exact (show Tryd.prog.wantsStandIn t = false by simpa using List.all_eq_true.1 hall t hm)⟩)
    (by kernel_rfl)
#print axioms proved
end Go.Proofs.YtmcgcanpaffggaaDoor.schemaFinds
