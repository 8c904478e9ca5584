/-
  Contracts of the document's own All and Same of layer 7.
-/
import Derived.Test.YtbbdmphclnnejaaDoorSkRefReadC
import Derived.Test.YtbbdmphclnnejaaDoorSkAllC
import Derived.Test.YtbbdmphclnnejaaDoorQuietB
namespace Go.Proofs.YtbbdmphclnnejaaDoor
open Go.RowKit

set_option maxRecDepth 100000 in
set_option maxHeartbeats 800000 in
theorem rall7_any (s : ByteArray) (w : World) (hs : s.size < 1000000) : Calls Tryd.prog 16 #[.string s] w fun e w' => AllR w w' (allK (bs s)) e := by
  go_enter Tryd.func16, Tryd.ntmps16
  go_wp2_with fail
  go_loopw [0, 4] (fun y v wr => ∃ (p : Nat) (l : List Vb) (u : ByteArray), p ≤ s.size ∧ y = .string u ∧ Hid (bs u = (bs s).drop p) ∧ Hid (OwnV wr w.heap.size v l) ∧ Hid (GotK (bs s) (vls l) p) ∧ l.length ≤ p ∧ Below w.heap.size w wr) (fun y _ _ => strSize y)
  case atStart => exact ⟨0, [], s, by omega, rfl, rfl, OwnV.nil _ _, .zero, Nat.le_refl 0, Below.refl _ _⟩
  case round =>
    obtain ⟨p, l, u, hp, rfl, Hu, ho, Hg, hlp, hb⟩ := hrel
    have hsz2 := hb.size
    have hus : u.size = s.size - p := by rw [size_of' Hu.out, List.length_drop, bs_length]
    by_cases hlt : p < s.size
    · have hne := ne_empty u (by omega)
      have HR := Lib.hid (fun w => rread7_any u w (by omega))
      rw [Hu.out] at HR
      have Hle := readK_le ((bs s).drop p)
      rw [List.length_drop, bs_length] at Hle
      obtain ⟨q, hq⟩ : ∃ q, readK ((bs s).drop p) = q := ⟨_, rfl⟩
      rw [hq] at HR Hle
      obtain ⟨⟨vk, vn, vt⟩, m, x⟩ := q
      replace HR : Hid (∀ w, Calls Tryd.prog 14 #[.string u] w fun e w' => e = .returned (.tuple #[VV vk vn ⟨vt.toArray⟩, .int .i64 (m : Nat), .int .i64 (x : Nat)]) ∧ Below w.heap.size w w') := HR
      have hm : m ≤ u.size := by simp at Hle; omega
      clear Hle
      by_cases hx : x = 0
      · subst hx
        have hm1 := readK_pos hq
        have Hg2 := Lib.hid (GotK.more Hg.out (by rw [bs_length]; exact hlt) hq)
        have Hvs := Lib.hid (vls_snoc l vk vn vt)
        have Hu2 : Hid (bs (u.extract m u.size) = (bs s).drop (p + m)) := by show _ = _; rw [bs_rest, Hu.out, List.drop_drop]
        have hpm : p + m ≤ s.size := by omega
        have Hus := Lib.hid hus
        clear hq hus
        generalize (⟨vt.toArray⟩ : ByteArray) = T at HR Hvs
        go_wp2_with fail
        refine (HR.out _).mono ?_
        rintro e w1 ⟨rfl, hb1⟩
        have HO := Lib.hid ((ho.out.below hb1).alloc (.cells #[.int .i64 vk, .int .i64 vn, .string T] 30))
        have hs1 : w.heap.size ≤ w1.heap.size := Nat.le_trans hsz2 hb1.size
        have hb1' := hb.trans (hb1.mono hsz2)
        clear hb1
        go_wp2_with (at_builtin; refine wpList_append_val rfl _ _ rfl w.heap.size _ l vk vn T _ HO.out rfl rfl (by simp) (by omega) (by simp; omega) ?_; intro v2 w2 ho2 hb2)
        have hb2' := (hb1'.alloc hs1 _).trans hb2
        go_roundw
        case rel => exact ⟨p + m, l ++ [(vk, vn, T)], _, hpm, rfl, Hu2.out, ho2, by show GotK _ _ _; rw [Hvs.out]; exact Hg2.out, by rw [List.length_append, List.length_singleton]; omega, hb2'⟩
        case measure =>
          have h1 := size_of' Hu2.out
          rw [List.length_drop, bs_length] at h1
          have h2 := Hus.out
          simp only [strSize]
          show (u.extract m u.size).size < u.size
          omega
      · have Ha : Hid (allK (bs s) = ([], x)) := all_stop Hg.out (by rw [bs_length]; exact hlt) hq hx
        have dx : ((x : Int) == 0) = false := by simp; omega
        clear hq hx
        go_wp2_with fail
        refine (HR.out _).mono ?_
        rintro e w1 ⟨rfl, hb1⟩
        have hb1' := hb.trans (hb1.mono hsz2)
        have hs1 : w.heap.size ≤ w1.heap.size := Nat.le_trans hsz2 hb1.size
        clear hb1
        go_wp2_with fail
        go_ret2
        refine ⟨_, [], by rw [Ha.out]; rfl, OwnV.nil _ _, by rw [Ha.out]; rfl, by simp, by go_grown⟩
    · have Ha : Hid (allK (bs s) = (vls l, 0)) := all_done Hg.out (by rw [bs_length]; omega)
      obtain rfl : u = ⟨#[]⟩ := is_empty u (by omega)
      go_wp2_with fail
      go_ret2
      exact ⟨_, l, by rw [Ha.out]; rfl, ho.out, by rw [Ha.out], by omega, hb⟩

set_option maxRecDepth 100000 in
set_option maxHeartbeats 800000 in
theorem rsame7_eq (A A2 : Option Addr) (c c2 : Nat) (l : List Vb) (w : World) (hA : ValsAt w w.heap.size A l) (hA2 : ValsAt w w.heap.size A2 l) (hl : l.length ≤ 1000000) :
    Calls Tryd.prog 17 #[.slice A l.length c, .slice A2 l.length c2] w fun e w' => e = .returned (.bool true) ∧ Below w.heap.size w w' := by
  have HA := Lib.hid hA; clear hA
  have HA2 := Lib.hid hA2; clear hA2
  go_enter Tryd.func17, Tryd.ntmps17
  go_wp2_with fail
  go_loopw [5] (fun i wr => ∃ k : Nat, k ≤ l.length ∧ i = .int .i64 k ∧ Below w.heap.size w wr) (fun i _ => l.length - (intOf i).toNat)
  case atStart => exact ⟨0, by omega, rfl, Below.refl _ _⟩
  case round =>
    obtain ⟨k, hk, rfl, hb⟩ := hrel
    have hsz2 := hb.size
    by_cases hlt : k < l.length
    · obtain ⟨b1, off1, rfl, hb1, c0, c1, c2'⟩ := (HA.out.below hb).get k hlt
      obtain ⟨b2, off2, rfl, hb2, e0, e1, e2⟩ := (HA2.out.below hb).get k hlt
      generalize l[k] = x at c0 c1 c2' e0 e1 e2
      obtain ⟨xk, xn, xs⟩ := x
      simp only at c0 c1 c2' e0 e1 e2
      go_wp2_with fail
      go_region
      all_goals go_wp2_with fail
      all_goals go_roundw
      case rel => exact ⟨k + 1, by omega, by go_num, hb.drew⟩
      case measure => simp [intOf]; omega
    · go_wp2_with fail
      go_ret
      exact ⟨rfl, hb⟩
end Go.Proofs.YtbbdmphclnnejaaDoor
