/-
  Contracts of package sortkey's Next and of the document's own.
-/
import Derived.Test.YtbbdmphclnnejaaDoorSkNextMath
import Derived.Test.YtbbdmphclnnejaaDoorSkRefC
import Derived.Test.YtbbdmphclnnejaaDoorHasB
namespace Go.Proofs.YtbbdmphclnnejaaDoor
open Go.RowKit

/-- what Next returns -/
def nextV (l : List UInt8) : Value := .tuple #[.string ⟨(nextK l).1.toArray⟩, .bool (nextK l).2]
theorem next_no {l : List UInt8} (h : nxt l = none) : nextV l = .tuple #[.string ⟨#[]⟩, .bool false] := by unfold nextV nextK; rw [h]
theorem next_yes {l t : List UInt8} (h : nxt l = some t) : nextV l = .tuple #[.string ⟨t.toArray⟩, .bool true] := by unfold nextV nextK; rw [h]
theorem take_snoc {l : List UInt8} {k : Nat} {c : UInt8} (h : l[k]? = some c) : l.take (k + 1) = l.take k ++ [c] := by
  obtain ⟨h1, rfl⟩ := List.getElem?_eq_some_iff.1 h
  exact List.take_succ_eq_append_getElem h1

set_option maxRecDepth 100000 in
set_option maxHeartbeats 800000 in
theorem snext_any (s : ByteArray) (w : World) (hs : s.size ≤ 1000000) :
    Calls Tryd.prog 18 #[.string s] w fun e w' => e = .returned (nextV (bs s)) ∧ Below w.heap.size w w' := by
  go_enter Tryd.func18, Tryd.ntmps18
  go_wp2_with fail
  go_loop [4] (fun i => ∃ k : Nat, k ≤ s.size ∧ i = .int .i64 k ∧ Hid (nxt (bs s) = nxt ((bs s).take k))) (fun i => (intOf i).toNat)
  case atStart =>
    refine ⟨s.size, Nat.le_refl _, rfl, ?_⟩
    show _ = _
    rw [List.take_of_length_le (by rw [bs_length]; omega)]
  case round =>
    obtain ⟨k, hk, rfl, Hn⟩ := hrel
    by_cases h0 : 0 < k
    · obtain ⟨j, rfl⟩ : ∃ j, k = j + 1 := ⟨k - 1, by omega⟩
      have hj : j < s.size := by omega
      have Ht := Lib.hid (take_snoc (bs_at s j hj))
      by_cases hc : s[j].toNat = 255
      · have d : ((s[j].toNat : Int) == 255) = true := by simp [hc]
        have Hn2 : Hid (nxt (bs s) = nxt ((bs s).take j)) := by
          show _ = _
          rw [Hn.out, Ht.out, show s[j] = 255 from UInt8.toNat_inj.1 hc, nxt_255]
        clear hc
        go_wp2_with fail
        go_round
        case rel => exact ⟨j, by omega, by go_num, Hn2.out⟩
        case measure => simp [intOf]
      · have d : ((s[j].toNat : Int) == 255) = false := by simp; omega
        have hne : s[j] ≠ 255 := fun e => hc (by rw [e]; rfl)
        have Hy : Hid (nxt (bs s) = some ((bs s).take j ++ [s[j] + 1])) := by
          show _ = _
          rw [Hn.out, Ht.out, nxt_snoc hne]
        have hz : ((s[j].toNat : Int) + 1) % 256 = ((s[j] + 1).toNat : Int) := by
          have := s[j].toNat_lt
          rw [inc_toNat hne]; omega
        obtain ⟨cap, w2, hconv, hhas, hb2, hsz2⟩ := bytes_of w (s.extract 0 (j + 1))
        have hfr : bs (s.extract 0 (j + 1)) = (bs s).take j ++ [s[j]] := by rw [bs_front]; exact Ht.out
        have hlen : ((bs s).take j ++ [s[j]]).length = j + 1 := by rw [← Ht.out, List.length_take, bs_length]; omega
        have hse : (s.extract 0 (j + 1)).size = j + 1 := by rw [size_of hfr, hlen]
        rw [hse] at hconv
        rw [hfr] at hhas
        have hc1 : w2.cell? ⟨w.heap.size, j, none⟩ = some (.int .u8 (s[j].toNat : Int)) := by
          have h := hhas.1 j (by rw [hlen]; omega)
          rw [List.getElem_append_right (by rw [List.length_take, bs_length]; omega)] at h
          simpa using h
        have hf1 : w2.frozen? ⟨w.heap.size, j, none⟩ = false := hhas.2 j (by rw [hlen]; omega)
        have hset := hhas.set j (by rw [hlen]; omega) (s[j] + 1) _ hz
        have hcv := run_string_has (cap := cap) (n := j + 1) hset (by rw [List.length_set, hlen])
        have he : ((bs s).take j ++ [s[j]]).set j (s[j] + 1) = (bs s).take j ++ [s[j] + 1] := by
          rw [List.set_append_right _ _ (by rw [List.length_take, bs_length]; omega), List.length_take, bs_length, Nat.min_eq_left (by omega), Nat.sub_self]; rfl
        rw [he] at hcv
        have Hv := Lib.hid (next_yes Hy.out)
        have hb3 : Below w.heap.size w (w2.setCell ⟨w.heap.size, j, none⟩ (.int .u8 (((s[j].toNat : Int) + 1) % 256))) := hb2.setCell (by simp) _
        have Hb3 := Lib.hid hb3
        have Hz := Lib.hid hz
        clear hset hhas hb2 hb3 hfr hlen hse he hc hz hne
        go_wp2_with fail
        go_ret2
        exact ⟨by rw [Hv.out]; rfl, Hb3.out⟩
    · obtain rfl : k = 0 := by omega
      have Hv : Hid (nextV (bs s) = .tuple #[.string ⟨#[]⟩, .bool false]) := next_no (by rw [Hn.out]; rfl)
      go_wp2_with fail
      go_ret2
      exact ⟨by rw [Hv.out]; rfl, Below.refl _ _⟩

theorem snoc_of (t : ByteArray) (j : Nat) (h : t.size = j + 1) : bs t = bs (t.extract 0 j) ++ [t[j]] := by
  have h1 := take_snoc (bs_at t j (by omega))
  rw [List.take_of_length_le (by rw [bs_length]; omega)] at h1
  rw [bs_front]; exact h1
set_option maxRecDepth 100000 in
set_option maxHeartbeats 800000 in
theorem rnext_any (s : ByteArray) (w : World) (hs : s.size ≤ 1000000) :
    Calls Tryd.prog 19 #[.string s] w fun e w' => e = .returned (nextV (bs s)) ∧ Below w.heap.size w w' := by
  go_enter Tryd.func19, Tryd.ntmps19
  go_wp2_with fail
  go_loop [0] (fun x => ∃ t : ByteArray, x = .string t ∧ t.size ≤ 1000000 ∧ Hid (nxt (bs s) = nxt (bs t))) (fun x => strSize x)
  case atStart => exact ⟨s, rfl, hs, rfl⟩
  case round =>
    obtain ⟨t, rfl, hts, Hn⟩ := hrel
    by_cases h0 : 0 < t.size
    · obtain ⟨j, hj⟩ : ∃ j, t.size = j + 1 := ⟨t.size - 1, by omega⟩
      have hlt : j < t.size := by omega
      have Ht := Lib.hid (snoc_of t j hj)
      have hne := ne_empty t h0
      have hsub : ((t.size : Int) - 1) = (j : Int) := by omega
      by_cases hc : t[j].toNat = 255
      · have d : ((t[j].toNat : Int) == 255) = true := by simp [hc]
        have Hn2 : Hid (nxt (bs s) = nxt (bs (t.extract 0 j))) := by
          show _ = _
          rw [Hn.out, Ht.out, show t[j] = 255 from UInt8.toNat_inj.1 hc, nxt_255]
        clear hc
        go_wp2_with fail
        go_round
        case rel => exact ⟨_, rfl, by simp; omega, Hn2.out⟩
        case measure => simp [strSize]; omega
      · have d : ((t[j].toNat : Int) == 255) = false := by simp; omega
        have hne2 : t[j] ≠ 255 := fun e => hc (by rw [e]; rfl)
        have hz : ((t[j].toNat : Int) + 1) % 256 = ((t[j] + 1).toNat : Int) := by
          have := t[j].toNat_lt
          rw [inc_toNat hne2]; omega
        have hz' : IntKind.u8.wrap ((t[j].toNat : Int) + 1) = ((t[j] + 1).toNat : Int) := by rw [IntKind.wrap_u8']; exact hz
        have hcv := fun w' b => run_string_one w' b 1 _ (t[j] + 1) hz
        have hcv' := fun w' b => run_string_one w' b 1 _ (t[j] + 1) hz'
        have hfs : (t.extract 0 j).size = j := by rw [← bs_length, bs_front, List.length_take, bs_length]; omega
        have hadd := fun w' => run_string_add_sum (P := Tryd.prog) (w := w') (t.extract 0 j) ⟨#[t[j] + 1]⟩ (by rw [hfs, show (⟨#[t[j] + 1]⟩ : ByteArray).size = 1 from rfl]; omega)
        have Hv : Hid (nextV (bs s) = .tuple #[.string (t.extract 0 j ++ ⟨#[t[j] + 1]⟩), .bool true]) := by
          show _ = _
          rw [next_yes (t := bs (t.extract 0 j) ++ [t[j] + 1]) (by rw [Hn.out, Ht.out, nxt_snoc hne2])]
          congr 4
        clear hc hne2 hz hz' hfs
        go_wp2_with fail
        go_region
        all_goals go_wp2_with fail
        all_goals go_ret2
        all_goals exact ⟨by rw [Hv.out]; rfl, by go_grown⟩
    · obtain rfl : t = ⟨#[]⟩ := is_empty t (by omega)
      have Hv : Hid (nextV (bs s) = .tuple #[.string ⟨#[]⟩, .bool false]) := next_no (by rw [Hn.out]; rfl)
      go_wp2_with fail
      go_ret2
      exact ⟨by rw [Hv.out]; rfl, Below.refl _ _⟩
end Go.Proofs.YtbbdmphclnnejaaDoor
