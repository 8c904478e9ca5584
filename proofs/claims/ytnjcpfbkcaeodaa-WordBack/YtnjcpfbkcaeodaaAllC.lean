/-
  Contracts of word.All, of the document's own All, and of Same.
-/
import Derived.Test.YtnjcpfbkcaeodaaRefLongC
import Derived.Test.YtnjcpfbkcaeodaaAllMath
import Derived.Deep.QuietTactic
import Derived.BigQuiet
import Derived.WalkSmall
namespace Go.Proofs.Ytnjcpfbkcaeodaa
open Go.RowKit

theorem bs_empty (s : ByteArray) : bs s = [] ↔ s.size = 0 := by
  rw [← bs_length]; exact List.length_eq_zero_iff.symm
theorem bs_drop (s : ByteArray) (k : Nat) : bs (s.extract k s.size) = (bs s).drop k := by
  unfold bs; rw [ByteArray.data_extract, Array.toList_extract, List.extract_eq_take_drop]
  exact List.take_of_length_le (by rw [List.length_drop, Array.length_toList]; exact Nat.le_refl _)

/-- what All hands back: a row of its own, and the error -/
def AllBack (w : World) (l : List UInt8) (e : Ending) (w' : World) : Prop :=
  ∃ v, e = .returned (.tuple #[v, .int .i64 ((all l).2 : Int)]) ∧ OwnN w' w.heap.size v (all l).1 ∧ Below w.heap.size w w'

set_option maxRecDepth 100000 in
set_option maxHeartbeats 400000 in
theorem all_any (s : ByteArray) (w : World) (hl : s.size ≤ 1000000) : Calls Try.prog 20 #[.string s] w (AllBack w (bs s)) := by
  go_enter Try.func20, Try.ntmps20
  go_wp2
  go_loopw [0, 4] (fun t v wr => ∃ (r : ByteArray) (acc : List Nat), t = .string r ∧ r.size + acc.length ≤ s.size ∧ Hid (all (bs s) = comb acc (all (bs r))) ∧ OwnN wr w.heap.size v acc ∧ Below w.heap.size w wr) (fun t _ _ => match t with | .string r => r.size | _ => 0)
  case atStart => exact ⟨s, [], rfl, by simp, (comb_nil _ (all_none _)).symm, OwnN.nil _ _, Below.refl _ _⟩
  case round =>
    obtain ⟨r, acc, rfl, hsz, ha, ho, hb⟩ := hrel
    have hs := hb.size
    by_cases hlt : 0 < r.size
    · have hne : bs r ≠ [] := fun h => by rw [bs_empty] at h; omega
      have hz := long_size (bs r)
      rw [bs_length] at hz
      by_cases he : (long (bs r)).2.2 = 0
      · have hp := long_pos (bs r) he
        have HC : Hid (all (bs s) = comb (acc ++ [(long (bs r)).1]) (all (bs (r.extract (long (bs r)).2.1 r.size)))) := by
          show _ = _
          rw [bs_drop]; exact ha.out.trans (comb_step acc (bs r) hne he)
        have Hne := Lib.hid hne; clear hne
        have heq : (((long (bs r)).2.2 : Int) != 0) = false := by simp [he]
        have He := Lib.hid he; clear he
        go_wp2_with (first
          | (go_at_call 18; refine (long_any _ _ (by omega)).mono ?_; rintro e w1 ⟨rfl, rfl⟩)
          | (at_builtin; refine wpList_append_num rfl _ _ rfl w.heap.size _ acc (long (bs r)).1 _ ho rfl rfl rfl (by omega) hs ?_; intro v1 w1 ho1 hb1))
        go_roundw
        case rel => exact ⟨_, acc ++ [(long (bs r)).1], rfl, by simp; omega, HC, ho1, hb.trans hb1⟩
        case measure => simp; omega
      · have heq : (((long (bs r)).2.2 : Int) != 0) = true := by simp [he]
        have HC := Lib.hid (ha.out.trans (comb_err acc (bs r) hne he))
        have Hne := Lib.hid hne; clear hne
        have He := Lib.hid he; clear he
        go_wp2_with (go_at_call 18; refine (long_any _ _ (by omega)).mono ?_; rintro e w1 ⟨rfl, rfl⟩)
        go_ret2
        exact ⟨.slice none 0 0, by rw [HC.out]; rfl, by rw [HC.out]; exact OwnN.nil _ _, hb⟩
    · have HC : Hid (all (bs s) = (acc, 0)) := by
        show _ = _
        have h1 := ha.out
        rw [(bs_empty r).2 (by omega), comb_end] at h1; exact h1
      go_wp2
      go_ret2
      exact ⟨u4, by rw [HC.out]; rfl, by rw [HC.out]; exact ho, hb⟩

set_option maxRecDepth 100000 in
set_option maxHeartbeats 400000 in
theorem rall_any (s : ByteArray) (w : World) (hl : s.size ≤ 1000000) : Calls Try.prog 21 #[.string s] w (AllBack w (bs s)) := by
  go_enter Try.func21, Try.ntmps21
  go_wp2
  go_loopw [0, 4] (fun t v wr => ∃ (r : ByteArray) (acc : List Nat), t = .string r ∧ r.size + acc.length ≤ s.size ∧ Hid (all (bs s) = comb acc (all (bs r))) ∧ OwnN wr w.heap.size v acc ∧ Below w.heap.size w wr) (fun t _ _ => match t with | .string r => r.size | _ => 0)
  case atStart => exact ⟨s, [], rfl, by simp, (comb_nil _ (all_none _)).symm, OwnN.nil _ _, Below.refl _ _⟩
  case round =>
    obtain ⟨r, acc, rfl, hsz, ha, ho, hb⟩ := hrel
    have hs := hb.size
    by_cases hlt : 0 < r.size
    · have hem : r.toList.isEmpty = false := by rw [ByteArray.toList_eq]; exact List.isEmpty_eq_false_iff.2 fun h => by have := (bs_empty r).1 h; omega
      have hne : bs r ≠ [] := fun h => by rw [bs_empty] at h; omega
      have hz := long_size (bs r)
      rw [bs_length] at hz
      by_cases he : (long (bs r)).2.2 = 0
      · have hp := long_pos (bs r) he
        have HC : Hid (all (bs s) = comb (acc ++ [(long (bs r)).1]) (all (bs (r.extract (long (bs r)).2.1 r.size)))) := by
          show _ = _
          rw [bs_drop]; exact ha.out.trans (comb_step acc (bs r) hne he)
        have Hne := Lib.hid hne; clear hne
        have heq : (((long (bs r)).2.2 : Int) != 0) = false := by simp [he]
        have He := Lib.hid he; clear he
        go_wp2_with (first
          | (go_at_call 19; refine (rlong_any _ _ (by omega)).mono ?_; rintro e w1 ⟨rfl, rfl⟩)
          | (at_builtin; refine wpList_append_num rfl _ _ rfl w.heap.size _ acc (long (bs r)).1 _ ho rfl rfl rfl (by omega) hs ?_; intro v1 w1 ho1 hb1))
        go_roundw
        case rel => exact ⟨_, acc ++ [(long (bs r)).1], rfl, by simp; omega, HC, ho1, hb.trans hb1⟩
        case measure => simp; omega
      · have heq : (((long (bs r)).2.2 : Int) != 0) = true := by simp [he]
        have HC := Lib.hid (ha.out.trans (comb_err acc (bs r) hne he))
        have Hne := Lib.hid hne; clear hne
        have He := Lib.hid he; clear he
        go_wp2_with (go_at_call 19; refine (rlong_any _ _ (by omega)).mono ?_; rintro e w1 ⟨rfl, rfl⟩)
        go_ret2
        exact ⟨.slice none 0 0, by rw [HC.out]; rfl, by rw [HC.out]; exact OwnN.nil _ _, hb⟩
    · have hem : r.toList.isEmpty = true := by rw [ByteArray.toList_eq]; exact List.isEmpty_iff.2 ((bs_empty r).2 (by omega))
      have HC : Hid (all (bs s) = (acc, 0)) := by
        show _ = _
        have h1 := ha.out
        rw [(bs_empty r).2 (by omega), comb_end] at h1; exact h1
      go_wp2
      go_ret2
      exact ⟨u4, by rw [HC.out]; rfl, by rw [HC.out]; exact ho, hb⟩

set_option maxRecDepth 100000 in
set_option maxHeartbeats 400000 in
theorem same_any (A B : Option Addr) (c d : Nat) (ns : List Nat) (w : World) (hA : NumsAt w w.heap.size A ns) (hB : NumsAt w w.heap.size B ns) (hl : ns.length ≤ 1000000) :
    Calls Try.prog 22 #[.slice A ns.length c, .slice B ns.length d] w fun e w' => e = .returned (.bool true) ∧ Below w.heap.size w w' := by
  have HA := Lib.hid hA; clear hA
  have HB := Lib.hid hB; clear hB
  go_enter Try.func22, Try.ntmps22
  go_wp2
  go_loopw [5] (fun i wr => ∃ k : Nat, k ≤ ns.length ∧ i = .int .i64 k ∧ Below w.heap.size w wr) (fun i _ => ns.length - (intOf i).toNat)
  case atStart => exact ⟨0, by omega, rfl, Below.refl _ _⟩
  case round =>
    obtain ⟨k, hk, rfl, hb⟩ := hrel
    by_cases hlt : k < ns.length
    · obtain ⟨b, off, rfl, hbB, hc⟩ := HA.out (by omega)
      obtain ⟨b2, off2, rfl, hbB2, hc2⟩ := HB.out (by omega)
      have hcell : wr.cell? ⟨b, off + k, none⟩ = some (.int .u64 (ns[k] : Int)) := (hb.cell (by exact hbB)).trans (hc k hlt)
      have hcell2 : wr.cell? ⟨b2, off2 + k, none⟩ = some (.int .u64 (ns[k] : Int)) := (hb.cell (by exact hbB2)).trans (hc2 k hlt)
      clear hc hc2
      have hi1 : (k : Int) < (ns.length : Int) := by omega
      go_wp2
      go_quiet (fail)
      go_wp2
      go_roundw
      case rel => exact ⟨k + 1, by omega, by go_num, below_drewN hb _⟩
      case measure => simp [intOf]; omega
    · go_wp2
      go_ret
      exact ⟨rfl, hb⟩
end Go.Proofs.Ytnjcpfbkcaeodaa
