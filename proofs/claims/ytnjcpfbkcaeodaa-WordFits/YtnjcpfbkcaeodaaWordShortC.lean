/-
  Contracts of word.appendVarint and word.Short: the short bytes of numbers, appended; and of the examples that each law asks first.
-/
import Derived.Test.YtnjcpfbkcaeodaaRows
import Derived.Test.YtnjcpfbkcaeodaaWordNum
import Derived.Test.YtnjcpfbkcaeodaaVarMath
import Derived.Test.YtnjcpfbkcaeodaaBytes
namespace Go.Proofs.Ytnjcpfbkcaeodaa
open Go.RowKit

set_option maxRecDepth 100000 in
set_option maxHeartbeats 400000 in
theorem appendVarint_any (base : Nat) (v : Value) (l : List UInt8) (n : Nat) (w : World) (hn : n < 18446744073709551616) (hown : OwnB w base v l) (hl : l.length < 549755813888) (hbase : base ≤ w.heap.size) :
    Calls Try.prog 33 #[v, .int .u64 n] w fun e w' => ∃ v', e = .returned v' ∧ OwnB w' base v' (l ++ varint n) ∧ Below base w w' := by
  have h10 := varint_ten n hn
  go_enter Try.func33, Try.ntmps33
  go_wp2
  go_loopw [0, 1] (fun u i wr => ∃ (m : Nat) (pre : List UInt8), m < 18446744073709551616 ∧ i = .int .u64 m ∧ Hid (varint n = pre ++ varint m) ∧ pre.length ≤ 10 ∧ OwnB wr base u (l ++ pre) ∧ Below base w wr) (fun _ i _ => (intOf i).toNat)
  case atStart => exact ⟨n, [], hn, rfl, rfl, by simp, by simpa using hown, Below.refl _ _⟩
  case round =>
    obtain ⟨m, pre, hm, rfl, hv, hp, ho, hb⟩ := hrel
    have hsz := hb.size
    have HL : (l ++ pre).length < 1099511627776 := by simp; omega
    by_cases hlt : 128 ≤ m
    · have e2 := Lib.hid (byte_or m)
      go_wp2_with (at_builtin; refine wpList_append_byte rfl _ _ rfl base _ (l ++ pre) (hi m) _ ho rfl rfl e2.out HL (by omega) ?_; intro v1 w1 ho1 hb1)
      have R1 : OwnB w1 base v1 (l ++ (pre ++ [hi m])) := by rw [← List.append_assoc]; exact ho1
      have R2 := hb.trans hb1
      have R3 : Hid (varint n = (pre ++ [hi m]) ++ varint (m / 128)) := by
        have := hv.out; rw [varint_step m hlt] at this; rw [List.append_assoc]; exact this
      have R4 : (pre ++ [hi m]).length ≤ 10 := by
        have := congrArg List.length R3.out
        rw [List.length_append] at this
        omega
      go_roundw
      case rel => exact ⟨m / 128, _, by omega, by go_num, R3, R4, R1, R2⟩
      case measure => simp [intOf]; omega
    · have e2 := Lib.hid (byte_small m (by omega))
      have e3 := Lib.hid (varint_small m (by omega))
      go_wp2_with (at_builtin; refine wpList_append_byte rfl _ _ rfl base _ (l ++ pre) (UInt8.ofNat m) _ ho rfl rfl e2.out HL (by omega) ?_; intro v1 w1 ho1 hb1)
      go_ret
      refine ⟨v1, rfl, ?_, hb.trans hb1⟩
      rw [hv.out, e3.out, ← List.append_assoc]
      exact ho1

/-- a slice of numbers that lies below block B -/
def NumsAt (w : World) (B : Nat) (A : Option Addr) (ns : List Nat) : Prop :=
  0 < ns.length → ∃ b off, A = some ⟨b, off, none⟩ ∧ b < B ∧ ∀ j (hj : j < ns.length), w.cell? ⟨b, off + j, none⟩ = some (.int .u64 (ns[j] : Int))

theorem NumsAt.of_own {w : World} {base : Nat} {v : Value} {ns : List Nat} (h : OwnN w base v ns) : ∃ A c, v = .slice A ns.length c ∧ NumsAt w w.heap.size A ns := by
  rcases h.2 with ⟨rfl, hl⟩ | ⟨g, cap, cur, rfl, hb, hg, _⟩
  · exact ⟨none, 0, by rw [hl], fun hp => absurd hp (by omega)⟩
  · refine ⟨some ⟨g, 0, none⟩, cap, rfl, fun _ => ⟨g, 0, rfl, (Array.getElem?_eq_some_iff.1 hg).1, fun j hj => ?_⟩⟩
    have := World.ownsRow.cells h (g := g) rfl j (.int .u64 (ns[j] : Int)) (by simp [N64, hj])
    simpa [Addr.add_lit] using this
theorem NumsAt.below {w w' : World} {B : Nat} {A : Option Addr} {ns : List Nat} (h : NumsAt w B A ns) (hb : Below B w w') : NumsAt w' B A ns := fun hl => by
  obtain ⟨b, off, rfl, h1, h2⟩ := h hl
  exact ⟨b, off, rfl, h1, fun j hj => (hb.cell (p := ⟨b, off + j, none⟩) h1).trans (h2 j hj)⟩
theorem NumsAt.more {w : World} {B B' : Nat} {A : Option Addr} {ns : List Nat} (h : NumsAt w B A ns) (hB : B ≤ B') : NumsAt w B' A ns := fun hl => by
  obtain ⟨b, off, rfl, h1, h2⟩ := h hl
  exact ⟨b, off, rfl, by omega, h2⟩

set_option maxRecDepth 100000 in
set_option maxHeartbeats 400000 in
theorem short_any (A : Option Addr) (c : Nat) (ns : List Nat) (w : World) (hA : NumsAt w w.heap.size A ns) (hn : ∀ n ∈ ns, n < 18446744073709551616) (hl : ns.length ≤ 1000000) :
    Calls Try.prog 16 #[.slice A ns.length c] w fun e w' => e = .returned (.string ⟨(shorts ns).toArray⟩) ∧ Below w.heap.size w w' := by
  have Hn := Lib.hid hn; clear hn
  have HA := Lib.hid hA; clear hA
  go_enter Try.func16, Try.ntmps16
  go_wp2
  go_loopw [3, 8] (fun u i wr => ∃ k : Nat, k ≤ ns.length ∧ i = .int .i64 k ∧ OwnB wr w.heap.size u (shorts (ns.take k)) ∧ Below w.heap.size w wr) (fun _ i _ => ns.length - (intOf i).toNat)
  case atStart => exact ⟨0, by omega, rfl, OwnB.nil _ _, Below.refl _ _⟩
  case round =>
    obtain ⟨k, hk, rfl, ho, hb⟩ := hrel
    by_cases hlt : k < ns.length
    · obtain ⟨b, off, rfl, hbB, hc⟩ := HA.out (by omega)
      have hcell : wr.cell? ⟨b, off + k, none⟩ = some (.int .u64 (ns[k] : Int)) := (hb.cell (by exact hbB)).trans (hc k hlt)
      have Hc := Lib.hid hc; clear hc
      have HB : ns[k] < 18446744073709551616 := Hn.out _ (List.getElem_mem hlt)
      have HL : (shorts (ns.take k)).length < 549755813888 := by
        have := shorts_len (ns.take k) fun n h => Hn.out n (List.mem_of_mem_take h)
        simp at this; omega
      have hsz := hb.size
      go_wp2_with (go_at_call 33; refine (appendVarint_any w.heap.size _ _ _ _ HB ho HL (by omega)).mono ?_; rintro e w1 ⟨v1, rfl, ho1, hb1⟩)
      have R1 : OwnB w1 w.heap.size v1 (shorts (ns.take (k + 1))) := by
        rw [List.take_succ_eq_append_getElem hlt, shorts_snoc]; exact ho1
      have R2 := hb.trans hb1
      go_roundw
      case rel => exact ⟨k + 1, by omega, by go_num, R1, R2⟩
      case measure => simp [intOf]; omega
    · have hcv := run_string_own ho
      go_wp2
      go_ret
      obtain rfl : k = ns.length := by omega
      exact ⟨by rw [List.take_length]; rfl, hb⟩

theorem shorts_300 : shorts [300] = [172, 2] := by
  simp only [shorts, List.flatMap_cons, List.flatMap_nil, List.append_nil]
  rw [varint_step 300 (by omega), varint_small (300 / 128) (by omega)]; rfl

set_option maxRecDepth 100000 in
set_option maxHeartbeats 400000 in
theorem lives_any (w : World) : Calls Try.prog 9 #[] w fun e w' => e = .returned (.bool true) ∧ Below w.heap.size w w' := by
  have hA : NumsAt (w.alloc (.cells #[.int .u64 300] 23)) (w.heap.size + 1) (some ⟨w.heap.size, 0, none⟩) [300] := fun _ =>
    ⟨w.heap.size, 0, rfl, by omega, fun j hj => by
      match j, hj with
      | 0, hj => simp⟩
  have HA := Lib.hid hA; clear hA
  have hs := shorts_300
  have hz : zig (-2) = 3 := by decide
  have hl : low 200 8 = -56 := by decide
  go_enter Try.func9, Try.ntmps9
  go_wp2_with (first
    | (go_at_call 16; refine (short_any _ _ [300] _ (by simpa using HA.out) (by simp) (by simp)).mono ?_; rintro e w1 ⟨rfl, hb1⟩)
    | (go_at_call 23; refine (zig_any _ _ (by omega) (by omega)).mono ?_; rintro e w2 ⟨rfl, rfl⟩)
    | (go_at_call 27; refine (low_any 200 8 _ (by omega) (by omega)).mono ?_; rintro e w2 ⟨rfl, rfl⟩))
  go_ret
  exact ⟨rfl, ((Below.refl _ _).alloc (Nat.le_refl _) _).trans (hb1.mono (by simp))⟩
end Go.Proofs.Ytnjcpfbkcaeodaa
