/-
  Contracts of the document's own One and Short: the short bytes of one number and of several.
-/
import Derived.Test.YtnjcpfbkcaeodaaWordShortC
import Derived.Deep.RegionWith
namespace Go.Proofs.Ytnjcpfbkcaeodaa
open Go.RowKit

/-- one byte, built as a slice, made into a string -/
theorem run_string_one (w : World) (b : Nat) (cap : Nat) (z : Int) (c : UInt8) (hz : z = (c.toNat : Int)) (hc : w.cell? ⟨b, 0, none⟩ = some (.int .u8 z)) :
    (convert 56 9 (.slice (some ⟨b, 0, none⟩) 1 cap)).run Try.prog w = .ok (.string ⟨#[c]⟩) w := by
  subst hz
  refine run_convert_bytes_back w 56 9 5 ⟨b, 0, none⟩ cap [c] Try.underlying56 Try.underlying5 Try.underlying9 fun j hj => ?_
  match j, hj with
  | 0, _ => simpa [Addr.add] using hc
set_option maxRecDepth 100000 in
set_option maxHeartbeats 400000 in
theorem rone_aux (f : Nat) : ∀ (n : Nat) (w : World) (_ : n ≤ f) (_ : n < 18446744073709551616),
    Calls Try.prog 34 #[.int .u64 n] w fun e w' => e = .returned (.string ⟨(varint n).toArray⟩) ∧ Below w.heap.size w w' := by
  induction f with
  | zero =>
    intro n w hf hn
    have e1 := Lib.hid (varint_small n (by omega))
    have hcv := fun w' => run_string_one w' w.heap.size 1 (n : Int) (UInt8.ofNat n) (byte_small n (by omega))
    go_enter Try.func34, Try.ntmps34
    go_wp2
    go_ret
    exact ⟨by rw [e1.out]; rfl, (Below.refl _ _).alloc (Nat.le_refl _) _⟩
  | succ f ih =>
    intro n w hf hn
    have IH := Lib.hid ih; clear ih
    by_cases h : n < 128
    · have e1 := Lib.hid (varint_small n h)
      have hcv := fun w' => run_string_one w' w.heap.size 1 (n : Int) (UInt8.ofNat n) (byte_small n (by omega))
      go_enter Try.func34, Try.ntmps34
      go_wp2
      go_ret
      exact ⟨by rw [e1.out]; rfl, (Below.refl _ _).alloc (Nat.le_refl _) _⟩
    · have e1 := Lib.hid (varint_step n (by omega))
      have hd : decide ((n : Int) < 128) = false := by simp; omega
      have hx : IntKind.u8.wrap (IntKind.u64.wrap ((n : Int).tmod 128 + 128)) = ((hi n).toNat : Int) := by
        rw [IntKind.wrap_u64, IntKind.wrap_u8', hi_nat, Int.tmod_eq_emod_of_nonneg (by omega)]; omega
      have hcv := fun w' b => run_string_one w' b 1 _ (hi n) hx
      have Hq : Hid (IntKind.u64.wrap ((n : Int) / 128) = ((n / 128 : Nat) : Int)) := by
        show _ = _
        rw [IntKind.wrap_u64]; omega
      clear hx
      have HL := varint_ten (n / 128) (by omega)
      have hadd := fun w' => run_string_add_sum (P := Try.prog) (w := w') ⟨#[hi n]⟩ ⟨(varint (n / 128)).toArray⟩ (by simp [ByteArray.size]; omega)
      go_enter Try.func34, Try.ntmps34
      go_wp2
      go_region_with (go_at_call 34; rw [Hq.out]; refine (IH.out (n / 128) _ (by omega) (by omega)).mono ?_; rintro e w1 ⟨rfl, hb1⟩; have hc1 := fun b o h => hb1.cell (p := ⟨b, o, none⟩) h)
      all_goals go_wp2
      all_goals go_ret
      all_goals refine ⟨by rw [e1.out]; rfl, ?_⟩
      all_goals first
        | exact (((Below.refl _ _).alloc (Nat.le_refl _) _).drew).trans (hb1.mono (by simp))
        | exact (((Below.refl _ _).drew).trans hb1).alloc hb1.size _

theorem rone_any (n : Nat) (w : World) (hn : n < 18446744073709551616) :
    Calls Try.prog 34 #[.int .u64 n] w fun e w' => e = .returned (.string ⟨(varint n).toArray⟩) ∧ Below w.heap.size w w' :=
  rone_aux n n w (Nat.le_refl _) hn

theorem str_append (a b : List UInt8) : (⟨a.toArray⟩ : ByteArray) ++ ⟨b.toArray⟩ = ⟨(a ++ b).toArray⟩ := by
  apply ByteArray.ext; simp [ByteArray.data_append]

set_option maxRecDepth 100000 in
set_option maxHeartbeats 400000 in
theorem rshort_any (A : Option Addr) (c : Nat) (ns : List Nat) (w : World) (hA : NumsAt w w.heap.size A ns) (hn : ∀ n ∈ ns, n < 18446744073709551616) (hl : ns.length ≤ 1000000) :
    Calls Try.prog 17 #[.slice A ns.length c] w fun e w' => e = .returned (.string ⟨(shorts ns).toArray⟩) ∧ Below w.heap.size w w' := by
  have Hn := Lib.hid hn; clear hn
  have HA := Lib.hid hA; clear hA
  go_enter Try.func17, Try.ntmps17
  go_wp2
  go_loopw [3, 4] (fun u i wr => ∃ k : Nat, k ≤ ns.length ∧ i = .int .i64 k ∧ u = .string ⟨(shorts (ns.take k)).toArray⟩ ∧ Below w.heap.size w wr) (fun _ i _ => ns.length - (intOf i).toNat)
  case atStart => exact ⟨0, by omega, rfl, rfl, Below.refl _ _⟩
  case round =>
    obtain ⟨k, hk, rfl, rfl, hb⟩ := hrel
    by_cases hlt : k < ns.length
    · obtain ⟨b, off, rfl, hbB, hc⟩ := HA.out (by omega)
      have hcell : wr.cell? ⟨b, off + k, none⟩ = some (.int .u64 (ns[k] : Int)) := (hb.cell (by exact hbB)).trans (hc k hlt)
      have Hc := Lib.hid hc; clear hc
      have HB : ns[k] < 18446744073709551616 := Hn.out _ (List.getElem_mem hlt)
      have HL : (shorts (ns.take k)).length ≤ 10000000 := by
        have := shorts_len (ns.take k) fun n h => Hn.out n (List.mem_of_mem_take h)
        simp at this; omega
      have HV := varint_ten ns[k] HB
      have hadd := fun w' => run_string_add_sum (P := Try.prog) (w := w') ⟨(shorts (ns.take k)).toArray⟩ ⟨(varint ns[k]).toArray⟩ (by simp [ByteArray.size]; omega)
      have hsz := hb.size
      go_wp2_with (go_at_call 34; refine (rone_any _ _ HB).mono ?_; rintro e w1 ⟨rfl, hb1⟩)
      go_roundw
      case rel => exact ⟨k + 1, by omega, by go_num, by rw [str_append, List.take_succ_eq_append_getElem hlt, shorts_snoc], hb.trans (hb1.mono hsz)⟩
      case measure => simp [intOf]; omega
    · go_wp2
      go_ret
      obtain rfl : k = ns.length := by omega
      exact ⟨by rw [List.take_length]; rfl, hb⟩
end Go.Proofs.Ytnjcpfbkcaeodaa
