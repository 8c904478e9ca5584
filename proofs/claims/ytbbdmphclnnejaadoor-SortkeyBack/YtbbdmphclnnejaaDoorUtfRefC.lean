/-
  Contracts of the document's own utf: Is, one, Put.
-/
import Derived.Test.YtbbdmphclnnejaaDoorUtfNumC
import Derived.Deep.RegionWith
namespace Go.Proofs.YtbbdmphclnnejaaDoor
open Go.RowKit

set_option maxRecDepth 100000 in
set_option maxHeartbeats 400000 in
theorem ris_any (n : Int) (w : World) : Calls Tryd.prog 50 #[.int .i64 n] w fun e w' => e = .returned (.bool (isP n)) ∧ w = w' := by
  have Hp := Lib.hid (isP_iff n)
  have Hb : Hid (isP n = false ↔ ¬ (0 ≤ n ∧ n ≤ 1114111 ∧ (n < 55296 ∨ 57343 < n))) := by show _ ↔ _; simp [isP]
  rcases (show n < 0 ∨ (0 ≤ n ∧ n < 55296) ∨ (55296 ≤ n ∧ n ≤ 57343) ∨ (57343 < n ∧ n ≤ 1114111) ∨ 1114111 < n by omega) with h | ⟨h, h2⟩ | ⟨h, h2⟩ | ⟨h, h2⟩ | h
  · have d2 : decide (0 ≤ n) = false := by simp; omega
    go_enter Tryd.func50, Tryd.ntmps50
    go_wp2
    go_ret
    exact ⟨by rw [Hb.out.2 (by omega)]; rfl, rfl⟩
  · have d1 : decide (n < 55296) = true := by simp; omega
    have d2 : decide (0 ≤ n) = true := by simp; omega
    have d3 : decide (n ≤ 1114111) = true := by simp; omega
    go_enter Tryd.func50, Tryd.ntmps50
    go_wp2
    go_ret
    exact ⟨by rw [Hp.out.2 (by omega)]; rfl, rfl⟩
  · have d1 : decide (n < 55296) = false := by simp; omega
    have d2 : decide (57343 < n) = false := by simp; omega
    have d3 : decide (0 ≤ n) = true := by simp; omega
    have d4 : decide (n ≤ 1114111) = true := by simp; omega
    go_enter Tryd.func50, Tryd.ntmps50
    go_wp2
    go_ret
    exact ⟨by rw [Hb.out.2 (by omega)]; rfl, rfl⟩
  · have d1 : decide (n < 55296) = false := by simp; omega
    have d2 : decide (57343 < n) = true := by simp; omega
    have d3 : decide (0 ≤ n) = true := by simp; omega
    have d4 : decide (n ≤ 1114111) = true := by simp; omega
    go_enter Tryd.func50, Tryd.ntmps50
    go_wp2
    go_ret
    exact ⟨by rw [Hp.out.2 (by omega)]; rfl, rfl⟩
  · have d3 : decide (0 ≤ n) = true := by simp; omega
    have d4 : decide (n ≤ 1114111) = false := by simp; omega
    go_enter Tryd.func50, Tryd.ntmps50
    go_wp2
    go_ret
    exact ⟨by rw [Hb.out.2 (by omega)]; rfl, rfl⟩

set_option maxRecDepth 100000 in
set_option maxHeartbeats 400000 in
theorem rone3_any (z : Int) (n : Nat) (hz : z = (n : Int)) (hn : n < 256) (w : World) :
    Calls Tryd.prog 54 #[.int .i64 z] w fun e w' => e = .returned (.string ⟨#[by8 n]⟩) ∧ Below w.heap.size w w' := by
  subst hz
  have hcv := fun w' => run_string_one w' w.heap.size 1 (n : Int) (by8 n) (by rw [by8_toNat n hn])
  go_enter Tryd.func54, Tryd.ntmps54
  go_wp2
  go_ret
  exact ⟨rfl, (Below.refl _ _).alloc (Nat.le_refl _) _⟩

theorem enc1 (n : Nat) (h : n < 128) : enc n = [by8 n] := by unfold enc; rw [if_pos h]
theorem enc2 (n : Nat) (h1 : 128 ≤ n) (h : n < 2048) : enc n = [by8 (192 + n / 64), by8 (128 + n % 64)] := by unfold enc; rw [if_neg (by omega), if_pos h]
theorem enc3 (n : Nat) (h1 : 2048 ≤ n) (h : n < 65536) : enc n = [by8 (224 + n / 4096), by8 (128 + n / 64 % 64), by8 (128 + n % 64)] := by unfold enc; rw [if_neg (by omega), if_neg (by omega), if_pos h]
theorem enc4 (n : Nat) (h1 : 65536 ≤ n) : enc n = [by8 (240 + n / 262144), by8 (128 + n / 4096 % 64), by8 (128 + n / 64 % 64), by8 (128 + n % 64)] := by
  unfold enc; rw [if_neg (by omega), if_neg (by omega), if_neg (by omega)]

theorem rone3_as (z : Int) (n : Nat) (c : UInt8) (hz : z = (n : Int)) (hn : n < 256) (hc : Hid (c = by8 n)) (w : World) :
    Calls Tryd.prog 54 #[.int .i64 z] w fun e w' => e = .returned (.string ⟨#[c]⟩) ∧ Below w.heap.size w w' := by
  rw [hc.out]; exact rone3_any z n hz hn w
theorem name_it (b : UInt8) : ∃ a, Hid (a = b) := ⟨b, rfl⟩

set_option maxRecDepth 100000 in
set_option maxHeartbeats 800000 in
theorem rput3_any (n : Nat) (w : World) (hn : n ≤ 1114111) :
    Calls Tryd.prog 51 #[.int .i64 n] w fun e w' => e = .returned (.string ⟨(enc n).toArray⟩) ∧ Below w.heap.size w w' := by
  rcases (show n < 128 ∨ (128 ≤ n ∧ n < 2048) ∨ (2048 ≤ n ∧ n < 65536) ∨ 65536 ≤ n by omega) with h | ⟨h, h2⟩ | ⟨h, h2⟩ | h
  · have He := Lib.hid (enc1 n h)
    go_enter Tryd.func51, Tryd.ntmps51
    go_wp2_with fail
    refine (rone3_any _ n (by omega) (by omega) _).mono ?_
    rintro e w1 ⟨rfl, hb1⟩
    go_wp2
    go_ret
    exact ⟨by rw [He.out]; rfl, hb1⟩
  · have He := enc2 n h h2
    obtain ⟨a, Ha⟩ := name_it (by8 (192 + n / 64))
    obtain ⟨b, Hb⟩ := name_it (by8 (128 + n % 64))
    rw [← Ha.out, ← Hb.out] at He
    have He := Lib.hid He
    go_enter Tryd.func51, Tryd.ntmps51
    go_wp2_with fail
    refine (rone3_as _ (192 + n / 64) a (by omega) (by omega) Ha _).mono ?_
    rintro e w1 ⟨rfl, hb1⟩
    go_wp2_with fail
    refine (rone3_as _ (128 + n % 64) b (by omega) (by omega) Hb _).mono ?_
    rintro e w2 ⟨rfl, hb2⟩
    have hadd := fun w' => run_string_add_sum (P := Tryd.prog) (w := w') ⟨#[a]⟩ ⟨#[b]⟩ (by simp [ByteArray.size])
    go_wp2
    go_ret
    exact ⟨by rw [He.out]; rfl, hb1.trans (hb2.mono hb1.size)⟩
  · have He := enc3 n h h2
    have d1 : decide ((n : Int) < 128) = false := by simp; omega
    have d2 : decide ((n : Int) < 2048) = false := by simp; omega
    have d3 : decide ((n : Int) < 65536) = true := by simp; omega
    have Hh2 := Lib.hid h2; clear h h2
    obtain ⟨a, Ha⟩ := name_it (by8 (224 + n / 4096))
    obtain ⟨b, Hb⟩ := name_it (by8 (128 + n / 64 % 64))
    obtain ⟨c, Hc⟩ := name_it (by8 (128 + n % 64))
    rw [← Ha.out, ← Hb.out, ← Hc.out] at He
    have He := Lib.hid He
    go_enter Tryd.func51, Tryd.ntmps51
    go_wp2_with fail
    refine (rone3_as _ (224 + n / 4096) a (by omega) (by have := Hh2.out; omega) Ha _).mono ?_
    rintro e w1 ⟨rfl, hb1⟩
    go_wp2_with fail
    refine (rone3_as _ (128 + n / 64 % 64) b (by omega) (by omega) Hb _).mono ?_
    rintro e w2 ⟨rfl, hb2⟩
    have hadd := fun w' => run_string_add_sum (P := Tryd.prog) (w := w') ⟨#[a]⟩ ⟨#[b]⟩ (by simp [ByteArray.size])
    go_wp2_with fail
    refine (rone3_as _ (128 + n % 64) c (by omega) (by omega) Hc _).mono ?_
    rintro e w3 ⟨rfl, hb3⟩
    have hadd2 := fun w' => run_string_add_sum (P := Tryd.prog) (w := w') (⟨#[a]⟩ ++ ⟨#[b]⟩) ⟨#[c]⟩ (by rw [ByteArray.size_append]; simp [ByteArray.size])
    go_wp2
    go_ret
    exact ⟨by rw [He.out]; rfl, hb1.trans ((hb2.trans (hb3.mono hb2.size)).mono hb1.size)⟩
  · have He := enc4 n h
    have d1 : decide ((n : Int) < 128) = false := by simp; omega
    have d2 : decide ((n : Int) < 2048) = false := by simp; omega
    have d3 : decide ((n : Int) < 65536) = false := by simp; omega
    clear h
    obtain ⟨a, Ha⟩ := name_it (by8 (240 + n / 262144))
    obtain ⟨b, Hb⟩ := name_it (by8 (128 + n / 4096 % 64))
    obtain ⟨c, Hc⟩ := name_it (by8 (128 + n / 64 % 64))
    obtain ⟨d, Hd⟩ := name_it (by8 (128 + n % 64))
    rw [← Ha.out, ← Hb.out, ← Hc.out, ← Hd.out] at He
    have He := Lib.hid He
    go_enter Tryd.func51, Tryd.ntmps51
    go_wp2_with fail
    refine (rone3_as _ (240 + n / 262144) a (by omega) (by omega) Ha _).mono ?_
    rintro e w1 ⟨rfl, hb1⟩
    go_wp2_with fail
    refine (rone3_as _ (128 + n / 4096 % 64) b (by omega) (by omega) Hb _).mono ?_
    rintro e w2 ⟨rfl, hb2⟩
    have hadd := fun w' => run_string_add_sum (P := Tryd.prog) (w := w') ⟨#[a]⟩ ⟨#[b]⟩ (by simp [ByteArray.size])
    go_wp2_with fail
    refine (rone3_as _ (128 + n / 64 % 64) c (by omega) (by omega) Hc _).mono ?_
    rintro e w3 ⟨rfl, hb3⟩
    have hadd2 := fun w' => run_string_add_sum (P := Tryd.prog) (w := w') (⟨#[a]⟩ ++ ⟨#[b]⟩) ⟨#[c]⟩ (by rw [ByteArray.size_append]; simp [ByteArray.size])
    go_wp2_with fail
    refine (rone3_as _ (128 + n % 64) d (by omega) (by omega) Hd _).mono ?_
    rintro e w4 ⟨rfl, hb4⟩
    have hadd3 := fun w' => run_string_add_sum (P := Tryd.prog) (w := w') (⟨#[a]⟩ ++ ⟨#[b]⟩ ++ ⟨#[c]⟩) ⟨#[d]⟩ (by rw [ByteArray.size_append, ByteArray.size_append]; simp [ByteArray.size])
    go_wp2
    go_ret
    exact ⟨by rw [He.out]; rfl, hb1.trans ((hb2.trans ((hb3.trans (hb4.mono hb3.size)).mono hb2.size)).mono hb1.size)⟩
end Go.Proofs.YtbbdmphclnnejaaDoor
