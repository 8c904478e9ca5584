/-
  Contracts of strings.Cut at a quote and of package value's fromHex.
-/
import Derived.Test.YtgoefndbpfhhaaaDoorNameUnqC
import Derived.Test.YtgoefndbpfhhaaaDoorValHexMath
import Derived.Test.YtgoefndbpfhhaaaDoorHasB
namespace Go.Proofs.YtgoefndbpfhhaaaDoor
open Go.RowKit

theorem index_quote (s : ByteArray) (w : World) : Calls Tryd.prog 85 #[.string s, .string ⟨#[34]⟩] w fun e w' => e = .returned (.int .i64 (Lib.indexByte (bs s) 34)) ∧ w = w' :=
  (Any.stringslite_Index_one lay_Lays_n219 s 34 w).mono fun _ _ ⟨h1, h2⟩ => ⟨h1, h2.symm⟩

set_option maxRecDepth 100000 in
set_option maxHeartbeats 800000 in
theorem qcut_no (s : ByteArray) (w : World) (h : Lib.indexByte (bs s) 34 = -1) : Calls Tryd.prog 70 #[.string s, .string ⟨#[34]⟩] w fun e w' => e = .returned (.tuple #[.string s, .string ⟨#[]⟩, .bool false]) ∧ Drew w w' := by
  have HI := Lib.hid (index_quote s w)
  rw [h] at HI
  have HC : Hid (Calls Tryd.prog 79 #[.string s, .string ⟨#[34]⟩] w fun e w' => e = .returned (.tuple #[.string s, .string ⟨#[]⟩, .bool false]) ∧ Drew w w') := by
    show Calls _ _ _ _ _
    go_enter Tryd.func79, Tryd.ntmps79
    go_wp2_with (go_at_call 85; refine HI.out.mono ?_; rintro e w1 ⟨rfl, rfl⟩)
    go_ret3
    exact ⟨rfl, Drew.refl _⟩
  go_enter Tryd.func70, Tryd.ntmps70
  go_wp2_with (go_at_call 79; refine HC.out.mono ?_; rintro e w1 ⟨rfl, hd⟩)
  go_ret3
  exact ⟨rfl, hd⟩
set_option maxRecDepth 100000 in
set_option maxHeartbeats 800000 in
theorem qcut_yes (s : ByteArray) (k : Nat) (w : World) (h : Lib.indexByte (bs s) 34 = k) (hk : k < s.size) (hs : s.size ≤ 1000000) :
    Calls Tryd.prog 70 #[.string s, .string ⟨#[34]⟩] w fun e w' => e = .returned (.tuple #[.string (s.extract 0 k), .string (s.extract (k + 1) s.size), .bool true]) ∧ Drew w w' := by
  have HI := Lib.hid (index_quote s w)
  rw [h] at HI
  have HC : Hid (Calls Tryd.prog 79 #[.string s, .string ⟨#[34]⟩] w fun e w' => e = .returned (.tuple #[.string (s.extract 0 k), .string (s.extract (k + 1) s.size), .bool true]) ∧ Drew w w') := by
    show Calls _ _ _ _ _
    have i1 : (k : Int) ≤ (s.size : Int) := by omega
    have i2 : (k : Int) + 1 ≤ (s.size : Int) := by omega
    have i3 : (0 : Int) ≤ (k : Int) := by omega
    go_enter Tryd.func79, Tryd.ntmps79
    go_wp2_with (go_at_call 85; refine HI.out.mono ?_; rintro e w1 ⟨rfl, rfl⟩)
    go_quiet (fail)
    go_wp2
    go_ret3
    exact ⟨rfl, ⟨_, rfl⟩⟩
  go_enter Tryd.func70, Tryd.ntmps70
  go_wp2_with (go_at_call 79; refine HC.out.mono ?_; rintro e w1 ⟨rfl, hd⟩)
  go_ret3
  exact ⟨rfl, hd⟩

/-- how fromHex ends -/
def FromV (l : List UInt8) (w : World) (e : Ending) (w' : World) : Prop :=
  ((∃ t, l = hxs t ∧ e = .returned (.tuple #[.string ⟨t.toArray⟩, .bool true])) ∨ ((∀ t, l ≠ hxs t) ∧ e = .returned (.tuple #[.string ⟨#[]⟩, .bool false]))) ∧ Below w.heap.size w w'
/-- the first i bytes are there -/
def Fro (l b : List UInt8) (n i : Nat) : Prop := b.length = n ∧ i ≤ n ∧ l.take (2 * i) = hxs (b.take i)
theorem Fro.start (l : List UInt8) (n : Nat) : Fro l (List.replicate n 0) n 0 := ⟨by simp, by omega, by simp [hxs]⟩
theorem Fro.more {l b : List UInt8} {n i : Nat} {x y : UInt8} (h : Fro l b n i) (hi : i < n) (h1 : l[2 * i]? = some x) (h2 : l[2 * i + 1]? = some y) (hx1 : 0 ≤ hx x) (hy : 0 ≤ hx y) :
    Fro l (b.set i (UInt8.ofNat (16 * (hx x).toNat + (hx y).toNat))) n (i + 1) := by
  obtain ⟨hb, _, ht⟩ := h
  refine ⟨by simpa using hb, by omega, ?_⟩
  rw [show 2 * (i + 1) = 2 * i + 1 + 1 by omega, take_at h2, take_at h1, ht]
  have e : (b.set i (UInt8.ofNat (16 * (hx x).toNat + (hx y).toNat))).take (i + 1) = b.take i ++ [UInt8.ofNat (16 * (hx x).toNat + (hx y).toNat)] := by
    rw [List.take_succ_eq_append_getElem (by simp; omega), List.getElem_set_self, List.take_set_of_le (by omega)]
  rw [e, hxs_snoc, hp_of hx1 hy, List.append_assoc]; rfl
theorem Fro.stop {l b : List UInt8} {n : Nat} (h : Fro l b n n) (hl : l.length = 2 * n) : l = hxs b := by
  obtain ⟨hb, _, ht⟩ := h
  rw [List.take_of_length_le (by omega), List.take_of_length_le (by omega)] at ht; exact ht
theorem from_no {l : List UInt8} {k : Nat} {x : UInt8} (h : l[k]? = some x) (hx1 : hx x < 0) : ∀ t, l ≠ hxs t := fun t e => by
  have := (hxs_mem (l := t) (d := x) (by rw [← e]; exact List.mem_of_getElem? h)).1
  omega
theorem from_odd {l : List UInt8} (h : l.length % 2 ≠ 0) : ∀ t, l ≠ hxs t := fun t e => by
  rw [e, hxs_len] at h; omega

set_option maxRecDepth 100000 in
set_option maxHeartbeats 1600000 in
theorem fromHex_any (s : ByteArray) (w : World) (hs : s.size ≤ 1000000) : Calls Tryd.prog 71 #[.string s] w fun e w' => FromV (bs s) w e w' := by
  have hm0 : (0 : Int) ≤ (s.size : Int) % 2 := by omega
  by_cases hodd : s.size % 2 = 0
  · have d : ((s.size : Int) % 2 != 0) = false := by simp; omega
    obtain ⟨n, hn⟩ : ∃ n, s.size = 2 * n := ⟨s.size / 2, by omega⟩
    have hdiv : (s.size : Int) / 2 = (n : Int) := by omega
    have Hs2 := Lib.hid hn
    have hn1 : n ≤ 500000 := by omega
    clear hn
    go_enter Tryd.func71, Tryd.ntmps71
    go_wp2_with (with_reducible refine wpList_make_bytes rfl _ _ rfl w.heap.size n .i64 .i64 (n : Int) (n : Int) rfl rfl rfl rfl (by omega) (Nat.le_refl _) ?_; intro w1 ho1 hb1)
    go_loopw [18] (fun i wr => ∃ (k : Nat) (b : List UInt8), k ≤ n ∧ i = .int .i64 k ∧ Hid (Fro (bs s) b n k) ∧ Hid (OwnB wr w.heap.size (.slice (some ⟨w.heap.size, 0, none⟩) n n) b) ∧ Below w.heap.size w wr) (fun i _ => n - (intOf i).toNat)
    case atStart => exact ⟨0, _, by omega, rfl, Fro.start _ _, ho1, hb1⟩
    case round =>
      obtain ⟨k, b, hk, rfl, hf, ho, hb⟩ := hrel
      by_cases hlt : k < n
      · have h2k : 2 * k < s.size := by have := Hs2.out; omega
        have h2k1 : 2 * k + 1 < s.size := by have := Hs2.out; omega
        have A1 := Lib.hid (bs_at s (2 * k) h2k)
        have A2 := Lib.hid (bs_at s (2 * k + 1) h2k1)
        have i1 : (2 * (k : Int)) < (s.size : Int) := by omega
        have i2 : (2 * (k : Int)) + 1 < (s.size : Int) := by omega
        have i3 : (0 : Int) ≤ 2 * (k : Int) := by omega
        have H1 := Lib.hid (fun w => (indexHex s[2 * k] w).mono fun e w' ⟨h1, h2⟩ => (⟨h1, h2.symm⟩ : e = _ ∧ w = w'))
        have H2 := Lib.hid (fun w => (indexHex s[2 * k + 1] w).mono fun e w' ⟨h1, h2⟩ => (⟨h1, h2.symm⟩ : e = _ ∧ w = w'))
        have r1 := hx_range s[2 * k]
        have r2 := hx_range s[2 * k + 1]
        have HN1 := Lib.hid (fun h => from_no A1.out h)
        have HN2 := Lib.hid (fun h => from_no A2.out h)
        have HM := Lib.hid (fun h1 h2 => hf.out.more hlt A1.out A2.out h1 h2)
        go_wp2_with fail
        refine (H1.out _).mono ?_
        rintro e w2 ⟨rfl, rfl⟩
        go_wp2_with fail
        refine (H2.out _).mono ?_
        rintro e w2 ⟨rfl, rfl⟩
        clear H1 H2
        generalize hx s[2 * k] = X at r1 HN1 HM ⊢
        generalize hx s[2 * k + 1] = Y at r2 HN2 HM ⊢
        by_cases hX : X < 0
        · have e1 : decide (X < 0) = true := by simp; omega
          have Hn := Lib.hid (HN1.out hX)
          clear HN1 HN2 HM
          go_wp2_with fail
          go_ret2
          exact ⟨.inr ⟨Hn.out, rfl⟩, hb⟩
        · have e1 : decide (X < 0) = false := by simp; omega
          by_cases hY : Y < 0
          · have e2 : decide (Y < 0) = true := by simp; omega
            have Hn := Lib.hid (HN2.out hY)
            clear HN1 HN2 HM
            go_wp2_with fail
            go_ret2
            exact ⟨.inr ⟨Hn.out, rfl⟩, hb⟩
          · have e2 : decide (Y < 0) = false := by simp; omega
            have Hor := Lib.hid (or16 X Y (by omega) (by omega) (by omega) (by omega))
            have Hn := Lib.hid (HM.out (by omega) (by omega))
            have hbl : b.length = n := hf.out.1
            have c1 := ho.out.at k b[k] (List.getElem?_eq_getElem (by omega))
            have f1 := ho.out.thawed hbl k
            have Hset := Lib.hid (ho.out.set hbl k (UInt8.ofNat (16 * X.toNat + Y.toNat)))
            rw [← Hor.out] at Hset
            generalize (Value.int .u8 (b[k].toNat : Int)) = v0 at c1
            clear HN1 HN2 HM hbl
            go_wp2_with fail
            go_roundw
            case rel => exact ⟨k + 1, _, by omega, by go_num, Hn.out, Hset.out, hb.setCell (by simp) _⟩
            case measure => simp [intOf]; omega
      · obtain rfl : k = n := by omega
        have Hn := Lib.hid (hf.out.stop (by rw [bs_length]; exact Hs2.out))
        have hcv := run_string_own ho.out wr (fun _ => rfl)
        go_wp2
        go_ret2
        exact ⟨.inl ⟨b, Hn.out, rfl⟩, hb⟩
  · have d : ((s.size : Int) % 2 != 0) = true := by simp; omega
    have Hn := Lib.hid (from_odd (l := bs s) (by rw [bs_length]; exact hodd))
    go_enter Tryd.func71, Tryd.ntmps71
    go_wp2_with fail
    go_ret2
    exact ⟨.inr ⟨Hn.out, rfl⟩, Below.refl _ _⟩
end Go.Proofs.YtgoefndbpfhhaaaDoor
