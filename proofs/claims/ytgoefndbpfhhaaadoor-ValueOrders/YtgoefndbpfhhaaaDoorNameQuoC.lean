/-
  Contracts of package name's form, Quote and of the document's own one, Quote.
-/
import Derived.Test.YtgoefndbpfhhaaaDoorNameOrdC
import Derived.Test.YtgoefndbpfhhaaaDoorInts
import Derived.Test.YtgoefndbpfhhaaaDoorNameQuoMath
namespace Go.Proofs.YtgoefndbpfhhaaaDoor
open Go.RowKit

/-- two bytes, built as a slice, made into a string -/
theorem run_string_two (w : World) (b : Nat) (cap : Nat) (z0 z1 : Int) (c0 c1 : UInt8) (hz0 : z0 = (c0.toNat : Int)) (hz1 : z1 = (c1.toNat : Int)) (h0 : w.cell? ⟨b, 0, none⟩ = some (.int .u8 z0)) (h1 : w.cell? ⟨b, 1, none⟩ = some (.int .u8 z1)) :
    (convert 66 9 (.slice (some ⟨b, 0, none⟩) 2 cap)).run Tryd.prog w = .ok (.string ⟨#[c0, c1]⟩) w := by
  subst hz0 hz1
  refine run_convert_bytes_back w 66 9 5 ⟨b, 0, none⟩ cap [c0, c1] Tryd.underlying66 Tryd.underlying5 Tryd.underlying9 fun j hj => ?_
  match j, hj with
  | 0, _ => simpa [Addr.add] using h0
  | 1, _ => simpa [Addr.add] using h1
/-- four bytes, built as a slice, made into a string -/
theorem run_string_four (w : World) (b : Nat) (cap : Nat) (z0 z1 z2 z3 : Int) (c0 c1 c2 c3 : UInt8) (hz0 : z0 = (c0.toNat : Int)) (hz1 : z1 = (c1.toNat : Int)) (hz2 : z2 = (c2.toNat : Int)) (hz3 : z3 = (c3.toNat : Int))
    (h0 : w.cell? ⟨b, 0, none⟩ = some (.int .u8 z0)) (h1 : w.cell? ⟨b, 1, none⟩ = some (.int .u8 z1)) (h2 : w.cell? ⟨b, 2, none⟩ = some (.int .u8 z2)) (h3 : w.cell? ⟨b, 3, none⟩ = some (.int .u8 z3)) :
    (convert 66 9 (.slice (some ⟨b, 0, none⟩) 4 cap)).run Tryd.prog w = .ok (.string ⟨#[c0, c1, c2, c3]⟩) w := by
  subst hz0 hz1 hz2 hz3
  refine run_convert_bytes_back w 66 9 5 ⟨b, 0, none⟩ cap [c0, c1, c2, c3] Tryd.underlying66 Tryd.underlying5 Tryd.underlying9 fun j hj => ?_
  match j, hj with
  | 0, _ => simpa [Addr.add] using h0
  | 1, _ => simpa [Addr.add] using h1
  | 2, _ => simpa [Addr.add] using h2
  | 3, _ => simpa [Addr.add] using h3

/-- the digits as the program has them -/
def dgs : ByteArray := ⟨#[48, 49, 50, 51, 52, 53, 54, 55, 56, 57, 97, 98, 99, 100, 101, 102]⟩
theorem dgs_at (k : Nat) (hk : k < 16) : dgs[k]'hk = hexd k := by
  have h : ∀ k : Fin 16, dgs[k.1]'k.2 = hexd k.1 := by decide
  exact h ⟨k, hk⟩

theorem dgs_cut (k : Nat) (hk : k < 16) : dgs.extract k (k + 1) = ⟨#[hexd k]⟩ := by
  have h : ∀ k : Fin 16, bs (dgs.extract k.1 (k.1 + 1)) = [hexd k.1] := by
    intro k
    rw [bs_extract]
    revert k; decide
  exact bs_eq (h ⟨k, hk⟩)

set_option maxRecDepth 100000 in
set_option maxHeartbeats 800000 in
theorem form_any (c : UInt8) (w : World) : Calls Tryd.prog 63 #[.int .u8 (c.toNat : Int)] w fun e w' => e = .returned (.string ⟨(frm c).toArray⟩) ∧ Below w.heap.size w w' := by
  have hc : c.toNat < 256 := c.toNat_lt
  have Hf : Hid (frm c = if c.toNat = 34 ∨ c.toNat = 92 then [92, c] else if c.toNat = 10 then [92, 110] else if c.toNat < 32 ∨ 126 < c.toNat then [92, 120, hexd (c.toNat / 16), hexd (c.toNat % 16)] else [c]) := rfl
  by_cases h1 : c.toNat = 34 ∨ c.toNat = 92
  · rw [if_pos h1] at Hf
    have hcv := fun w' => run_string_two w' w.heap.size 2 92 (c.toNat : Int) 92 c rfl rfl
    rcases h1 with h1 | h1
    · have d1 : ((c.toNat : Int) == 34) = true := by simp; omega
      clear h1
      go_enter Tryd.func63, Tryd.ntmps63
      go_wp2_with fail
      go_ret
      exact ⟨by rw [Hf.out]; rfl, (Below.refl _ _).alloc (Nat.le_refl _) _⟩
    · have d1 : ((c.toNat : Int) == 34) = false := by simp; omega
      have d2 : ((c.toNat : Int) == 92) = true := by simp; omega
      clear h1
      go_enter Tryd.func63, Tryd.ntmps63
      go_wp2_with fail
      go_ret
      exact ⟨by rw [Hf.out]; rfl, (Below.refl _ _).alloc (Nat.le_refl _) _⟩
  have d1 : ((c.toNat : Int) == 34) = false := by simp; omega
  have d2 : ((c.toNat : Int) == 92) = false := by simp; omega
  rw [if_neg h1] at Hf
  by_cases h2 : c.toNat = 10
  · rw [if_pos h2] at Hf
    have hcv := fun w' => run_string_two w' w.heap.size 2 92 110 92 110 rfl rfl
    have d3 : ((c.toNat : Int) == 10) = true := by simp; omega
    clear h2
    go_enter Tryd.func63, Tryd.ntmps63
    go_wp2_with fail
    go_ret
    exact ⟨by rw [Hf.out]; rfl, (Below.refl _ _).alloc (Nat.le_refl _) _⟩
  rw [if_neg h2] at Hf
  have d3 : ((c.toNat : Int) == 10) = false := by simp; omega
  by_cases h3 : c.toNat < 32 ∨ 126 < c.toNat
  · rw [if_pos h3] at Hf
    have b1 : (0 : Int) ≤ (c.toNat : Int) % 16 := by omega
    have b2 : (c.toNat : Int) % 16 < 16 := by omega
    have b3 : (0 : Int) ≤ (c.toNat : Int) / 16 := by omega
    have b4 : (c.toNat : Int) / 16 < 16 := by omega
    have c1 : c.toNat / 16 < 16 := by omega
    have c2 : c.toNat % 16 < 16 := by omega
    have hcv := fun w' => run_string_four w' w.heap.size 4 92 120 _ _ 92 120 (dgs[c.toNat / 16]'c1) (dgs[c.toNat % 16]'c2) rfl rfl rfl rfl
    unfold dgs at hcv
    rcases h3 with h3 | h3
    all_goals
      go_enter Tryd.func63, Tryd.ntmps63
      go_wp2_with fail
      go_region
      go_wp2
      go_ret
      exact ⟨by rw [Hf.out, ← dgs_at _ c1, ← dgs_at _ c2]; rfl, ((Below.refl _ _).alloc (Nat.le_refl _) _).drew⟩
  · rw [if_neg h3] at Hf
    have hcv := fun w' => run_string_one w' w.heap.size 1 (c.toNat : Int) c rfl
    have d4 : decide ((c.toNat : Int) < 32) = false := by simp; omega
    have d5 : decide (126 < (c.toNat : Int)) = false := by simp; omega
    go_enter Tryd.func63, Tryd.ntmps63
    go_wp2_with fail
    go_ret
    exact ⟨by rw [Hf.out]; rfl, (Below.refl _ _).alloc (Nat.le_refl _) _⟩

set_option maxRecDepth 100000 in
set_option maxHeartbeats 1600000 in
theorem quote_any (s : ByteArray) (w : World) (hs : s.size ≤ 1000000) : Calls Tryd.prog 42 #[.string s] w fun e w' => e = .returned (.string ⟨(qt (bs s)).toArray⟩) ∧ Below w.heap.size w w' := by
  go_enter Tryd.func42, Tryd.ntmps42
  go_wp2_with fail
  go_loopw [3, 8] (fun v i wr => ∃ k : Nat, k ≤ s.size ∧ i = .int .i64 k ∧ Hid (OwnB wr w.heap.size v (34 :: qb ((bs s).take k))) ∧ Below w.heap.size w wr) (fun _ i _ => s.size - (intOf i).toNat)
  case atStart => 
    refine ⟨0, by omega, rfl, ?_, (Below.refl _ _).alloc (Nat.le_refl _) _⟩
    exact World.ownsRow_lit w #[.int .u8 34] 1 (Nat.le_refl _) (by decide) rfl
  case round =>
    obtain ⟨k, hk, rfl, ho, hb⟩ := hrel
    have hsz := hb.size
    by_cases hlt : k < s.size
    · have Hat := Lib.hid (bs_at s k hlt)
      have hlen := Lib.hid (qb_len ((bs s).take k))
      go_wp2_with fail
      refine (form_any s[k] _).mono ?_
      rintro e w1 ⟨rfl, hb1⟩
      have hs1 := hb1.size
      have ho1 := ho.out.below hb1
      have hl1 : (34 :: qb ((bs s).take k)).length + (⟨(frm s[k]).toArray⟩ : ByteArray).size < 1099511627776 := by
        have h1 := hlen.out
        have h2 := (frm_len s[k]).1
        have h3 := List.length_take_le k (bs s)
        rw [ba_size, List.length_cons]; omega
      go_wp2_with (at_builtin; refine wpList_append_str rfl _ _ rfl w.heap.size _ _ _ ho1 rfl rfl hl1 (by omega) ?_; intro v' w2 ho2 hb2)
      go_roundw
      case rel => exact ⟨k + 1, by omega, by go_num, by show OwnB _ _ _ _; rw [take_at Hat.out, qb_append, qb_one]; exact ho2, (hb.trans (hb1.mono hsz)).trans hb2⟩
      case measure => simp [intOf]; omega
    · have Hk : Hid ((bs s).take k = bs s) := by show _ = _; rw [List.take_of_length_le (by rw [bs_length]; omega)]
      rw [Hk.out] at ho
      have hlen := Lib.hid (qb_len (bs s))
      have hl1 : (34 :: qb (bs s)).length < 1099511627776 := by
        have h1 := hlen.out
        have h3 := bs_length s
        rw [List.length_cons]; omega
      have ho1 := ho.out
      go_wp2_with (at_builtin; refine wpList_append_byte rfl _ _ rfl w.heap.size _ _ 34 34 ho1 rfl rfl rfl hl1 (by omega) ?_; intro v' w2 ho2 hb2; have hcv := run_string_own ho2 w2 (fun _ => rfl); clear ho2)
      go_ret
      exact ⟨rfl, hb.trans hb2⟩

set_option maxRecDepth 100000 in
set_option maxHeartbeats 1600000 in
theorem one_any (c : UInt8) (w : World) : Calls Tryd.prog 64 #[.int .u8 (c.toNat : Int)] w fun e w' => e = .returned (.string ⟨(frm c).toArray⟩) ∧ Below w.heap.size w w' := by
  have hc : c.toNat < 256 := c.toNat_lt
  have Hf : Hid (frm c = if c.toNat = 34 ∨ c.toNat = 92 then [92, c] else if c.toNat = 10 then [92, 110] else if c.toNat < 32 ∨ 126 < c.toNat then [92, 120, hexd (c.toNat / 16), hexd (c.toNat % 16)] else [c]) := rfl
  by_cases h1 : c.toNat = 34 ∨ c.toNat = 92
  · rw [if_pos h1] at Hf
    have hcv := fun w' => run_string_two w' w.heap.size 2 92 (c.toNat : Int) 92 c rfl rfl
    rcases h1 with h1 | h1
    · have d1 : ((c.toNat : Int) == 34) = true := by simp; omega
      clear h1
      go_enter Tryd.func64, Tryd.ntmps64
      go_wp2_with fail
      go_ret
      exact ⟨by rw [Hf.out]; rfl, (Below.refl _ _).alloc (Nat.le_refl _) _⟩
    · have d1 : ((c.toNat : Int) == 34) = false := by simp; omega
      have d2 : ((c.toNat : Int) == 92) = true := by simp; omega
      clear h1
      go_enter Tryd.func64, Tryd.ntmps64
      go_wp2_with fail
      go_ret
      exact ⟨by rw [Hf.out]; rfl, (Below.refl _ _).alloc (Nat.le_refl _) _⟩
  have d1 : ((c.toNat : Int) == 34) = false := by simp; omega
  have d2 : ((c.toNat : Int) == 92) = false := by simp; omega
  rw [if_neg h1] at Hf
  by_cases h2 : c.toNat = 10
  · rw [if_pos h2] at Hf
    have d3 : ((c.toNat : Int) == 10) = true := by simp; omega
    clear h2
    go_enter Tryd.func64, Tryd.ntmps64
    go_wp2_with fail
    go_ret
    exact ⟨by rw [Hf.out]; rfl, Below.refl _ _⟩
  rw [if_neg h2] at Hf
  have d3 : ((c.toNat : Int) == 10) = false := by simp; omega
  by_cases h3 : c.toNat < 32 ∨ 126 < c.toNat
  · rw [if_pos h3] at Hf
    have b1 : (0 : Int) ≤ (c.toNat : Int) % 16 := by omega
    have b2 : (c.toNat : Int) % 16 < 16 := by omega
    have b3 : (0 : Int) ≤ (c.toNat : Int) / 16 := by omega
    have b4 : (c.toNat : Int) / 16 < 16 := by omega
    have c1 : c.toNat / 16 < 16 := by omega
    have c2 : c.toNat % 16 < 16 := by omega
    have Hs : Hid (⟨#[92, 120]⟩ ++ dgs.extract (c.toNat / 16) (c.toNat / 16 + 1) ++ dgs.extract (c.toNat % 16) (c.toNat % 16 + 1) = ⟨[92, 120, hexd (c.toNat / 16), hexd (c.toNat % 16)].toArray⟩) := by
      show _ = _
      rw [dgs_cut _ c1, dgs_cut _ c2]; rfl
    rcases h3 with h3 | h3
    all_goals
      go_enter Tryd.func64, Tryd.ntmps64
      go_wp2_with fail
      go_quiet (fail)
      go_wp2
      go_ret
      exact ⟨by rw [Hf.out, ← Hs.out]; rfl, Drew.below ⟨_, rfl⟩ _⟩
  · rw [if_neg h3] at Hf
    have hcv := fun w' => run_string_one w' w.heap.size 1 (c.toNat : Int) c rfl
    have d4 : decide ((c.toNat : Int) < 32) = false := by simp; omega
    have d5 : decide (126 < (c.toNat : Int)) = false := by simp; omega
    go_enter Tryd.func64, Tryd.ntmps64
    go_wp2_with fail
    go_ret
    exact ⟨by rw [Hf.out]; rfl, (Below.refl _ _).alloc (Nat.le_refl _) _⟩

set_option maxRecDepth 100000 in
set_option maxHeartbeats 1600000 in
theorem rquote_any (s : ByteArray) (w : World) (hs : s.size ≤ 1000000) : Calls Tryd.prog 44 #[.string s] w fun e w' => e = .returned (.string ⟨(qt (bs s)).toArray⟩) ∧ Below w.heap.size w w' := by
  go_enter Tryd.func44, Tryd.ntmps44
  go_wp2_with fail
  go_loopw [3, 4] (fun v i wr => ∃ (k : Nat) (t : ByteArray), k ≤ s.size ∧ i = .int .i64 k ∧ v = .string t ∧ Hid (bs t = 34 :: qb ((bs s).take k)) ∧ Below w.heap.size w wr) (fun _ i _ => s.size - (intOf i).toNat)
  case atStart => exact ⟨0, ⟨#[34]⟩, by omega, rfl, rfl, rfl, Below.refl _ _⟩
  case round =>
    obtain ⟨k, t, hk, rfl, rfl, ht, hb⟩ := hrel
    have hsz := hb.size
    have htl : t.size ≤ 4 * k + 1 := by
      have h1 := qb_len ((bs s).take k)
      have h3 := List.length_take_le k (bs s)
      rw [← bs_length, ht.out, List.length_cons]; omega
    by_cases hlt : k < s.size
    · have Hat := Lib.hid (bs_at s k hlt)
      have Hn : Hid (bs (t ++ ⟨(frm s[k]).toArray⟩) = 34 :: qb ((bs s).take (k + 1))) := by
        show _ = _
        rw [bs_append, ht.out, take_at Hat.out, qb_append, qb_one]; rfl
      have hf : (⟨(frm s[k]).toArray⟩ : ByteArray).size ≤ 4 := by rw [ba_size]; exact (frm_len _).1
      have Hone := Lib.hid (fun w => one_any s[k] w)
      generalize hfk : (⟨(frm s[k]).toArray⟩ : ByteArray) = f at Hn hf Hone
      clear hfk
      have hadd := fun w' => run_string_add_sum (P := Tryd.prog) (w := w') t f (by omega)
      go_wp2_with (go_at_call 64; refine (Hone.out _).mono ?_; rintro e w1 ⟨rfl, hb1⟩)
      go_roundw
      case rel => exact ⟨k + 1, t ++ f, by omega, by go_num, rfl, Hn.out, hb.trans (hb1.mono hsz)⟩
      case measure => simp [intOf]; omega
    · have Hn : Hid (t ++ ⟨#[34]⟩ = ⟨(qt (bs s)).toArray⟩) := by
        show _ = _
        refine bs_eq ?_
        rw [bs_append, ht.out, List.take_of_length_le (by rw [bs_length]; omega)]; rfl
      have hadd := fun w' => run_string_add_sum (P := Tryd.prog) (w := w') t ⟨#[34]⟩ (by show t.size + 1 ≤ _; omega)
      go_wp2
      go_ret
      exact ⟨by rw [← Hn.out]; rfl, hb⟩
end Go.Proofs.YtgoefndbpfhhaaaDoor
