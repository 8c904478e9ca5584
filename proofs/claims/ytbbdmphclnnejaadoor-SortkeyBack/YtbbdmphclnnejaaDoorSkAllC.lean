/-
  Contract of package sortkey's All.
-/
import Derived.Test.YtbbdmphclnnejaaDoorSkRestC
namespace Go.Proofs.YtbbdmphclnnejaaDoor
open Go.RowKit

/-- what All returns -/
def AllR (w w' : World) (q : List Vl × Nat) (e : Ending) : Prop := ∃ (v' : Value) (l : List Vb), e = .returned (.tuple #[v', .int .i64 (q.2 : Nat)]) ∧ OwnV w' w.heap.size v' l ∧ vls l = q.1 ∧ l.length ≤ 1000000 ∧ Below w.heap.size w w'
theorem vls_snoc (l : List Vb) (k n : Int) (t : List UInt8) : vls (l ++ [(k, n, ⟨t.toArray⟩)]) = vls l ++ [(k, n, t)] := by
  unfold vls
  rw [List.map_append]
  show _ ++ [vl (k, n, ⟨t.toArray⟩)] = _
  unfold vl
  rw [bs_mk t]

set_option maxRecDepth 100000 in
set_option maxHeartbeats 800000 in
theorem sall_any (s : ByteArray) (w : World) (ht : UTab w) (hs : s.size < 1000000) : Calls Tryd.prog 15 #[.string s] w fun e w' => AllR w w' (allK (bs s)) e := by
  have HT := Lib.hid ht; clear ht
  go_enter Tryd.func15, Tryd.ntmps15
  go_wp2_with fail
  go_loopw [4, 5] (fun v i wr => ∃ (p : Nat) (l : List Vb), p ≤ s.size ∧ i = .int .i64 p ∧ Hid (OwnV wr w.heap.size v l) ∧ Hid (GotK (bs s) (vls l) p) ∧ l.length ≤ p ∧ Below w.heap.size w wr) (fun _ i _ => s.size - (intOf i).toNat)
  case atStart => exact ⟨0, [], by omega, rfl, OwnV.nil _ _, .zero, Nat.le_refl 0, Below.refl _ _⟩
  case round =>
    obtain ⟨p, l, hp, rfl, ho, Hg, hlp, hb⟩ := hrel
    have hsz2 := hb.size
    by_cases hlt : p < s.size
    · have Hr : Hid (bs (s.extract p s.size) = (bs s).drop p) := bs_rest s p
      have HR := Lib.hid (fun w ht => sread_any (s.extract p s.size) w ht (by rw [size_of' Hr.out, List.length_drop, bs_length]; omega))
      rw [Hr.out] at HR
      have Hle := readK_le ((bs s).drop p)
      rw [List.length_drop, bs_length] at Hle
      obtain ⟨q, hq⟩ : ∃ q, readK ((bs s).drop p) = q := ⟨_, rfl⟩
      rw [hq] at HR Hle
      obtain ⟨⟨vk, vn, vt⟩, m, x⟩ := q
      replace HR : Hid (∀ w, UTab w → Calls Tryd.prog 13 #[.string (s.extract p s.size)] w fun e w' => e = .returned (.tuple #[VV vk vn ⟨vt.toArray⟩, .int .i64 (m : Nat), .int .i64 (x : Nat)]) ∧ Below w.heap.size w w') := HR
      have hm : p + m ≤ s.size := by simp at Hle; omega
      clear Hle
      by_cases hx : x = 0
      · subst hx
        have hm1 := readK_pos hq
        have Hg2 := Lib.hid (GotK.more Hg.out (by rw [bs_length]; exact hlt) hq)
        have Hvs := Lib.hid (vls_snoc l vk vn vt)
        clear hq Hr
        generalize (⟨vt.toArray⟩ : ByteArray) = T at HR Hvs
        go_wp2_with fail
        refine (HR.out _ (HT.out.below hb (Nat.le_refl _))).mono ?_
        rintro e w1 ⟨rfl, hb1⟩
        have HO := Lib.hid ((ho.out.below hb1).alloc (.cells #[.int .i64 vk, .int .i64 vn, .string T] 30))
        have hs1 : w.heap.size ≤ w1.heap.size := Nat.le_trans hsz2 hb1.size
        have hb1' := hb.trans (hb1.mono hsz2)
        clear hb1
        go_wp2_with (at_builtin; refine wpList_append_val rfl _ _ rfl w.heap.size _ l vk vn T _ HO.out rfl rfl (by simp) (by omega) (by simp; omega) ?_; intro v2 w2 ho2 hb2)
        have hb2' := (hb1'.alloc hs1 _).trans hb2
        go_roundw
        case rel => exact ⟨p + m, l ++ [(vk, vn, T)], hm, by go_num, ho2, by show GotK _ _ _; rw [Hvs.out]; exact Hg2.out, by rw [List.length_append, List.length_singleton]; omega, hb2'⟩
        case measure => simp [intOf]; omega
      · have Ha : Hid (allK (bs s) = ([], x)) := all_stop Hg.out (by rw [bs_length]; exact hlt) hq hx
        have dx : ((x : Int) == 0) = false := by simp; omega
        clear hq Hr hx
        go_wp2_with fail
        refine (HR.out _ (HT.out.below hb (Nat.le_refl _))).mono ?_
        rintro e w1 ⟨rfl, hb1⟩
        have hb1' := hb.trans (hb1.mono hsz2)
        have hs1 : w.heap.size ≤ w1.heap.size := Nat.le_trans hsz2 hb1.size
        clear hb1
        go_wp2_with fail
        go_ret2
        refine ⟨_, [], by rw [Ha.out]; rfl, OwnV.nil _ _, by rw [Ha.out]; rfl, by simp, by go_grown⟩
    · have Ha : Hid (allK (bs s) = (vls l, 0)) := all_done Hg.out (by rw [bs_length]; omega)
      go_wp2_with fail
      go_ret2
      exact ⟨_, l, by rw [Ha.out]; rfl, ho.out, by rw [Ha.out], by omega, hb⟩
end Go.Proofs.YtbbdmphclnnejaaDoor
