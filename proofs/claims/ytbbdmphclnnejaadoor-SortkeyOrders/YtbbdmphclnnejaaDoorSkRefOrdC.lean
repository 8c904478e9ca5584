/-
  Contract of the document's own Order of layer 7.
-/
import Derived.Test.YtbbdmphclnnejaaDoorSkRefOfC
import Derived.Test.YtbbdmphclnnejaaDoorValOrdC
import Derived.Test.YtbbdmphclnnejaaDoorQuietB
namespace Go.Proofs.YtbbdmphclnnejaaDoor
open Go.RowKit

theorem ordL_step {a b : List Vl} {k : Nat} {x y : Vl} (ha : a[k]? = some x) (hb : b[k]? = some y) :
    ordL (a.drop k) (b.drop k) = if ordV x.1 x.2.1 x.2.2 y.1 y.2.1 y.2.2 ≠ 0 then ordV x.1 x.2.1 x.2.2 y.1 y.2.1 y.2.2 else ordL (a.drop (k + 1)) (b.drop (k + 1)) := by
  obtain ⟨h1, rfl⟩ := List.getElem?_eq_some_iff.1 ha
  obtain ⟨h2, rfl⟩ := List.getElem?_eq_some_iff.1 hb
  rw [List.drop_eq_getElem_cons h1, List.drop_eq_getElem_cons h2, ordL]
theorem ordL_end {a b : List Vl} {k : Nat} (h1 : k ≤ a.length) (h2 : k ≤ b.length) (h : k = a.length ∨ k = b.length) :
    ordL (a.drop k) (b.drop k) = if a.length < b.length then -1 else if b.length < a.length then 1 else 0 := by
  rcases h with rfl | rfl
  · rw [List.drop_length]
    by_cases h3 : a.length < b.length
    · rw [if_pos h3, List.drop_eq_getElem_cons h3]; rfl
    · rw [if_neg h3, if_neg (by omega), List.drop_eq_nil_of_le (by omega)]; rfl
  · rw [List.drop_length]
    by_cases h3 : b.length < a.length
    · rw [if_neg (by omega), if_pos h3, List.drop_eq_getElem_cons h3]; rfl
    · rw [if_neg (by omega), if_neg h3, List.drop_eq_nil_of_le (by omega)]; rfl

set_option maxRecDepth 100000 in
set_option maxHeartbeats 1600000 in
theorem rord7_any (A A2 : Option Addr) (c c2 : Nat) (a b : List Vb) (w : World) (hA : ValsAt w w.heap.size A a) (hA2 : ValsAt w w.heap.size A2 b) (ha : a.length ≤ 1000) (hb : b.length ≤ 1000)
    (hsa : ∀ v ∈ a, v.2.2.size ≤ 1000000) (hsb : ∀ v ∈ b, v.2.2.size ≤ 1000000) :
    Calls Tryd.prog 21 #[.slice A a.length c, .slice A2 b.length c2] w fun e w' => e = .returned (.int .i64 (ordL (vls a) (vls b))) ∧ Below w.heap.size w w' := by
  have HA := Lib.hid hA; clear hA
  have HA2 := Lib.hid hA2; clear hA2
  have HSA := Lib.hid hsa; clear hsa
  have HSB := Lib.hid hsb; clear hsb
  go_enter Tryd.func21, Tryd.ntmps21
  go_wp2_with fail
  go_loopw [5] (fun i wr => ∃ k : Nat, k ≤ a.length ∧ k ≤ b.length ∧ i = .int .i64 k ∧ Hid (ordL (vls a) (vls b) = ordL ((vls a).drop k) ((vls b).drop k)) ∧ Below w.heap.size w wr) (fun i _ => a.length - (intOf i).toNat)
  case atStart => exact ⟨0, by omega, by omega, rfl, rfl, Below.refl _ _⟩
  case round =>
    obtain ⟨k, hka, hkb, rfl, Ho, hbl⟩ := hrel
    have hsz2 := hbl.size
    by_cases hlt : k < a.length ∧ k < b.length
    · obtain ⟨l1, l2⟩ := hlt
      obtain ⟨b1, off1, rfl, hb1, c0, c1, c2'⟩ := (HA.out.below hbl).get k l1
      obtain ⟨b2, off2, rfl, hb2, e0, e1, e2⟩ := (HA2.out.below hbl).get k l2
      have Hst := Lib.hid (ordL_step (vls_at a k l1) (vls_at b k l2))
      have Hs1 := Lib.hid (HSA.out _ (List.getElem_mem l1))
      have Hs2 := Lib.hid (HSB.out _ (List.getElem_mem l2))
      generalize a[k] = x at c0 c1 c2' Hst Hs1
      generalize b[k] = y at e0 e1 e2 Hst Hs2
      obtain ⟨xk, xn, xs⟩ := x
      obtain ⟨yk, yn, ys⟩ := y
      simp only at c0 c1 c2' e0 e1 e2
      have hne : Nonempty (BelowBy wr.heap.size wr) := ⟨⟨wr, Below.refl _ _⟩⟩
      have C0 : ∀ p : BelowBy wr.heap.size wr, p.x.cell? ⟨b1, off1 + k * 3, none⟩ = some (.int .i64 xk) := fun p => (p.h.cell (by simp; omega)).trans c0
      have C1 : ∀ p : BelowBy wr.heap.size wr, p.x.cell? ⟨b1, off1 + k * 3 + 1, none⟩ = some (.int .i64 xn) := fun p => (p.h.cell (by simp; omega)).trans c1
      have C2 : ∀ p : BelowBy wr.heap.size wr, p.x.cell? ⟨b1, off1 + k * 3 + 2, none⟩ = some (.string xs) := fun p => (p.h.cell (by simp; omega)).trans c2'
      have E0 : ∀ p : BelowBy wr.heap.size wr, p.x.cell? ⟨b2, off2 + k * 3, none⟩ = some (.int .i64 yk) := fun p => (p.h.cell (by simp; omega)).trans e0
      have E1 : ∀ p : BelowBy wr.heap.size wr, p.x.cell? ⟨b2, off2 + k * 3 + 1, none⟩ = some (.int .i64 yn) := fun p => (p.h.cell (by simp; omega)).trans e1
      have E2 : ∀ p : BelowBy wr.heap.size wr, p.x.cell? ⟨b2, off2 + k * 3 + 2, none⟩ = some (.string ys) := fun p => (p.h.cell (by simp; omega)).trans e2
      clear c0 c1 c2' e0 e1 e2
      have HV := Lib.hid (fun w => vrorder_any xk xn yk yn xs ys w Hs1.out Hs2.out)
      replace Hst : Hid (ordL ((vls a).drop k) ((vls b).drop k) = if ordV xk xn (bs xs) yk yn (bs ys) ≠ 0 then ordV xk xn (bs xs) yk yn (bs ys) else ordL ((vls a).drop (k + 1)) ((vls b).drop (k + 1))) := Hst
      generalize ordV xk xn (bs xs) yk yn (bs ys) = z at HV Hst
      by_cases hz : z = 0
      · subst hz
        have Hn : Hid (ordL (vls a) (vls b) = ordL ((vls a).drop (k + 1)) ((vls b).drop (k + 1))) := by
          show _ = _
          rw [Ho.out, Hst.out, if_neg (by simp)]
        go_wp2_with fail
        refine wp_region_below wr.heap.size (by kernel_rfl) (by kernel_rfl) ?_
        repeat (
          with_reducible refine wpQuiet_step (fun K hK => ?_)
          go_simp
          refine hK _ ?_
          clear hK K)
        with_reducible refine wpQuiet_step (fun K hK => ?_)
        go_simp
        apply Exists.intro
        refine ⟨fun p => ?_, hK _ ?_⟩
        exact (HV.out _).mono fun e w5 ⟨he, hb⟩ => ⟨he, p.step (Nat.le_refl _) hb⟩
        clear hK K
        repeat (
          with_reducible refine wpQuiet_step (fun K hK => ?_)
          go_simp
          refine hK _ ?_
          clear hK K)
        refine wpQuiet_nil ?_
        rintro _ ⟨p, rfl⟩
        go_wp2_with fail
        go_roundw
        case rel => exact ⟨k + 1, by omega, by omega, by go_num, Hn.out, bthen hbl p.h⟩
        case measure => simp [intOf]; omega
      · have Hn : Hid (ordL (vls a) (vls b) = z) := by
          show _ = _
          rw [Ho.out, Hst.out, if_pos hz]
        have dz : (z == 0) = false := by simpa using hz
        clear hz
        go_wp2_with fail
        refine wp_region_below wr.heap.size (by kernel_rfl) (by kernel_rfl) ?_
        repeat (
          with_reducible refine wpQuiet_step (fun K hK => ?_)
          go_simp
          refine hK _ ?_
          clear hK K)
        with_reducible refine wpQuiet_step (fun K hK => ?_)
        go_simp
        apply Exists.intro
        refine ⟨fun p => ?_, hK _ ?_⟩
        exact (HV.out _).mono fun e w5 ⟨he, hb⟩ => ⟨he, p.step (Nat.le_refl _) hb⟩
        clear hK K
        repeat (
          with_reducible refine wpQuiet_step (fun K hK => ?_)
          go_simp
          refine hK _ ?_
          clear hK K)
        refine wpQuiet_nil ?_
        rintro _ ⟨p, rfl⟩
        go_wp2_with fail
        go_ret
        exact ⟨by rw [Hn.out]; rfl, bthen hbl p.h⟩
    · have He := ordL_end (a := vls a) (b := vls b) (k := k) (by rw [vls_length]; omega) (by rw [vls_length]; omega) (by rw [vls_length, vls_length]; omega)
      rw [vls_length, vls_length] at He
      have Hn : Hid (ordL (vls a) (vls b) = if a.length < b.length then -1 else if b.length < a.length then 1 else 0) := Ho.out.trans He
      clear He
      by_cases h1 : a.length < b.length
      · rw [if_pos h1] at Hn
        have hk : ¬ k < a.length := by omega
        go_wp2_with fail
        go_ret
        exact ⟨by rw [Hn.out]; rfl, hbl⟩
      · rw [if_neg h1] at Hn
        by_cases h2 : b.length < a.length
        · rw [if_pos h2] at Hn
          have hk : k < a.length := by omega
          have hk2 : ¬ k < b.length := by omega
          go_wp2_with fail
          go_ret
          exact ⟨by rw [Hn.out]; rfl, hbl⟩
        · rw [if_neg h2] at Hn
          have hk : ¬ k < a.length := by omega
          go_wp2_with fail
          go_ret
          exact ⟨by rw [Hn.out]; rfl, hbl⟩
end Go.Proofs.YtbbdmphclnnejaaDoor
