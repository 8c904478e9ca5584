/-
  Contracts of package name's Order and of the document's own.
-/
import Derived.Test.YtbbdmphclnnejaaDoorNameC
namespace Go.Proofs.YtbbdmphclnnejaaDoor
open Go.RowKit

/-- draws alone lie between -/
def Drew (w w' : World) : Prop := ∃ q, w' = w.drewN q
theorem Drew.refl (w : World) : Drew w w := ⟨0, rfl⟩
theorem Drew.more {w w' : World} (h : Drew w w') (q : Nat) : Drew w (w'.drewN q) := by
  obtain ⟨n, rfl⟩ := h
  exact ⟨n + q, by simp⟩
theorem Drew.one {w w' : World} (h : Drew w w') : Drew w w'.drew := h.more 1
theorem Drew.trans {a b c : World} (h : Drew a b) (h2 : Drew b c) : Drew a c := by
  obtain ⟨q, rfl⟩ := h2
  exact h.more q
theorem Drew.below {w w' : World} (h : Drew w w') (B : Nat) : Below B w w' := by
  obtain ⟨q, rfl⟩ := h
  exact ⟨rfl, rfl, rfl, Nat.le_refl _, fun _ _ => rfl⟩
theorem Drew.size {w w' : World} (h : Drew w w') : w'.heap.size = w.heap.size := by
  obtain ⟨q, rfl⟩ := h; rfl
theorem Drew.cell {w w' : World} (h : Drew w w') (p : Addr) : w'.cell? p = w.cell? p := by
  obtain ⟨q, rfl⟩ := h; rfl

set_option maxRecDepth 100000 in
set_option maxHeartbeats 1600000 in
theorem rorder_any (a b : ByteArray) (w : World) (ha : a.size ≤ 1000000) (hb : b.size ≤ 1000000) : Calls Tryd.prog 20 #[.string a, .string b] w fun e w' => e = .returned (.int .i64 (ordN (bs a) (bs b))) ∧ Drew w w' := by
  go_enter Tryd.func20, Tryd.ntmps20
  go_wp2_with fail
  go_loopw [5] (fun i wr => ∃ k : Nat, k ≤ a.size ∧ k ≤ b.size ∧ i = .int .i64 k ∧ Hid (ordN (bs a) (bs b) = ordN ((bs a).drop k) ((bs b).drop k)) ∧ Hid (Drew w wr)) (fun i _ => a.size - (intOf i).toNat)
  case atStart => exact ⟨0, by omega, by omega, rfl, rfl, Drew.refl _⟩
  case round =>
    obtain ⟨k, hka, hkb, rfl, ho, hd⟩ := hrel
    by_cases h1 : k < a.size
    · by_cases h2 : k < b.size
      · have Ha := Lib.hid (bs_at a k h1)
        have Hb := Lib.hid (bs_at b k h2)
        have hab : a[k].toNat < 256 := a[k].toNat_lt
        have hbb : b[k].toNat < 256 := b[k].toNat_lt
        by_cases hlt : a[k].toNat < b[k].toNat
        · have Hn := Lib.hid (ordN_lt Ha.out Hb.out hlt)
          go_wp2_with fail
          go_quiet (fail)
          go_wp2
          go_ret
          exact ⟨by rw [ho.out, Hn.out]; rfl, hd.out.more _⟩
        · by_cases hgt : b[k].toNat < a[k].toNat
          · have Hn := Lib.hid (ordN_gt Ha.out Hb.out hgt)
            go_wp2_with fail
            go_quiet (fail)
            have hd2 : Hid (Drew w (wr.drewN nq)) := hd.out.more nq
            generalize wr.drewN nq = wq at hd2 ⊢
            go_wp2_with fail
            go_quiet (fail)
            go_wp2
            go_ret
            exact ⟨by rw [ho.out, Hn.out]; rfl, hd2.out.more _⟩
          · have Hn := Lib.hid (ordN_eq Ha.out Hb.out (by omega))
            go_wp2_with fail
            go_quiet (fail)
            have hd2 : Hid (Drew w (wr.drewN nq)) := hd.out.more nq
            generalize wr.drewN nq = wq at hd2 ⊢
            go_wp2_with fail
            go_quiet (fail)
            go_wp2
            go_roundw
            case rel => exact ⟨k + 1, by omega, by omega, by go_num, by show _ = _; rw [ho.out]; exact Hn.out, hd2.out.more _⟩
            case measure => simp [intOf]; omega
      · have He := Lib.hid (ordN_end (l := bs a) (m := bs b) (k := k) (by rw [bs_length]; exact hka) (by rw [bs_length]; exact hkb) (by rw [bs_length, bs_length]; omega))
        rw [bs_length, bs_length] at He
        have hba : b.size < a.size := by omega
        have hz : sgn ((a.size : Int) - (b.size : Int)) = 1 := by rw [sgn, if_neg (by omega), if_pos (by omega)]
        rw [hz] at He; clear hz
        go_wp2
        go_ret
        exact ⟨by rw [ho.out, He.out]; rfl, hd.out⟩
    · have He := Lib.hid (ordN_end (l := bs a) (m := bs b) (k := k) (by rw [bs_length]; exact hka) (by rw [bs_length]; exact hkb) (by rw [bs_length, bs_length]; omega))
      rw [bs_length, bs_length] at He
      by_cases hab : a.size < b.size
      · have hz : sgn ((a.size : Int) - (b.size : Int)) = -1 := by rw [sgn, if_pos (by omega)]
        rw [hz] at He; clear hz
        go_wp2
        go_ret
        exact ⟨by rw [ho.out, He.out]; rfl, hd.out⟩
      · have hz : sgn ((a.size : Int) - (b.size : Int)) = 0 := by rw [sgn, if_neg (by omega), if_neg (by omega)]
        rw [hz] at He; clear hz
        have hab2 : a.size = b.size := by omega
        have d1 : ¬ b.size < a.size := by omega
        go_wp2
        go_ret
        exact ⟨by rw [ho.out, He.out]; rfl, hd.out⟩
end Go.Proofs.YtbbdmphclnnejaaDoor
