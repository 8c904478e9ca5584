/-
  Contracts of the document's own starts and Unquote.
-/
import Derived.Test.YtgoefndbpfhhaaaDoorNameUnqC
namespace Go.Proofs.YtgoefndbpfhhaaaDoor
open Go.RowKit

theorem toList_bs (s : ByteArray) : s.toList = bs s := ByteArray.toList_eq s
set_option maxRecDepth 100000 in
set_option maxHeartbeats 800000 in
theorem starts_any (s t : ByteArray) (w : World) :
    Calls Tryd.prog 74 #[.string s, .string t] w fun e w' => e = .returned (.bool ((bs t).isPrefixOf (bs s))) ∧ w = w' := by
  by_cases h : t.size ≤ s.size
  · have d1 : decide ((t.size : Int) ≤ (s.size : Int)) = true := by simp; omega
    have Hv : Hid (((s.extract 0 t.size).toList == t.toList) = (bs t).isPrefixOf (bs s)) := by
      show _ = _
      rw [toList_bs, toList_bs, bs_front, Bool.eq_iff_iff, pre_iff, beq_iff_eq, List.prefix_iff_eq_take, bs_length]
      exact eq_comm
    generalize (bs t).isPrefixOf (bs s) = v at Hv ⊢
    generalize hg : ((s.extract 0 t.size).toList == t.toList) = g at Hv
    go_enter Tryd.func74, Tryd.ntmps74
    go_wp2
    go_ret
    exact ⟨by rw [← Hv.out]; rfl, rfl⟩
  · have d1 : decide ((t.size : Int) ≤ (s.size : Int)) = false := by simp; omega
    have Hv : Hid ((bs t).isPrefixOf (bs s) = false) := pre_no fun hp => by
      have := hp.length_le
      rw [bs_length, bs_length] at this; omega
    go_enter Tryd.func74, Tryd.ntmps74
    go_wp2
    go_ret
    exact ⟨by rw [Hv.out]; rfl, rfl⟩
theorem starts_as (s t : ByteArray) (b : Bool) (w : World) (hb : (bs t).isPrefixOf (bs s) = b) :
    Calls Tryd.prog 74 #[.string s, .string t] w fun e w' => e = .returned (.bool b) ∧ w = w' := by
  have := starts_any s t w
  rwa [hb] at this

/-- the search has come to byte k -/
def Srch (r : List UInt8) (k : Nat) : Prop := ∀ c : UInt8, c.toNat < k → ¬ frm c <+: r

set_option maxRecDepth 100000 in
set_option maxHeartbeats 1600000 in
theorem runquote_any (s : ByteArray) (w : World) (hs : s.size ≤ 1000000) :
    Calls Tryd.prog 53 #[.string s] w fun e w' => e = .returned (uqV (bs s)) ∧ Below w.heap.size w w' := by
  by_cases h0 : s.size = 0
  · have Hv := Lib.hid (uqV_no (uq_start (l := bs s) (by rw [List.getElem?_eq_none (by rw [bs_length]; omega)]; simp)))
    obtain rfl := is_empty s h0
    go_enter Tryd.func53, Tryd.ntmps53
    go_wp2_with fail
    go_ret3
    exact ⟨by rw [Hv.out]; rfl, Below.refl _ _⟩
  have hne := ne_empty s (by omega)
  have h0' : 0 < s.size := by omega
  have A0 := Lib.hid (bs_at s 0 h0')
  by_cases h1 : s[0].toNat = 34
  · have d0 : ((s[0].toNat : Int) != 34) = false := by simp; omega
    have B0 : Hid ((bs s)[0]? = some 34) := by show _ = _; rw [A0.out, u8eq (by omega) h1]; rfl
    have HU := Lib.hid (Unq.start B0.out)
    clear d0 B0
    have d0 : ((s[0].toNat : Int) != 34) = false := by simp; omega
    go_enter Tryd.func53, Tryd.ntmps53
    go_wp2_with fail
    go_loopw [5, 6] (fun v i wr => ∃ (p : Nat) (t : ByteArray), 1 ≤ p ∧ p ≤ s.size ∧ i = .int .i64 p ∧ v = .string t ∧ t.size < p ∧ Hid (Unq (bs s) (bs t) p) ∧ Below w.heap.size w wr) (fun _ i _ => s.size - (intOf i).toNat)
    case atStart => exact ⟨1, ⟨#[]⟩, by omega, by omega, rfl, rfl, by decide, HU.out, Below.refl _ _⟩
    case round =>
      obtain ⟨p, t, hp1, hp, rfl, rfl, htp, hu, hb⟩ := hrel
      have hsz := hb.size
      by_cases hlt : p < s.size
      · have Ap := Lib.hid (bs_at s p hlt)
        by_cases h34 : s[p].toNat = 34
        · have d1 : ((s[p].toNat : Int) != 34) = false := by simp; omega
          have Hv := Lib.hid (uqV_yes (hu.out.stop (by rw [Ap.out, u8eq (by omega) h34]; rfl)))
          go_wp2
          go_ret3
          exact ⟨by rw [Hv.out]; rfl, hb⟩
        · have d1 : ((s[p].toNat : Int) != 34) = true := by simp; omega
          have Hx1 : Hid (bs (s.extract p s.size) = (bs s).drop p) := bs_rest s p
          have hsx : (s.extract p s.size).size = s.size - p := by simp
          go_wp2_with fail
          go_loopw [5, 6, 7, 8] (fun v i f j wr2 => ∃ (k : Nat), k ≤ 256 ∧ j = .int .i64 k ∧ Below w.heap.size w wr2 ∧
            ((f = .bool false ∧ v = .string t ∧ i = .int .i64 p ∧ Hid (Srch ((bs s).drop p) k)) ∨
             (f = .bool true ∧ ∃ (q : Nat) (u : ByteArray), p < q ∧ q ≤ s.size ∧ v = .string u ∧ i = .int .i64 q ∧ u.size < q ∧ Hid (Unq (bs s) (bs u) q)))) (fun _ _ _ j _ => 256 - (intOf j).toNat)
          case atStart => exact ⟨0, by omega, rfl, hb, .inl ⟨rfl, rfl, rfl, fun c hc => absurd hc (by omega)⟩⟩
          case round =>
            obtain ⟨k, hk, rfl, hb2, ⟨rfl, rfl, rfl, hS⟩ | ⟨rfl, q, u, hq1, hq2, rfl, rfl, hu1, hU⟩⟩ := hrel
            · by_cases hk2 : k < 256
              · obtain ⟨c, rfl⟩ : ∃ c : UInt8, k = c.toNat := ⟨UInt8.ofNat k, by rw [UInt8.toNat_ofNat']; omega⟩
                have hsz2 := hb2.size
                have hm : (c.toNat : Int) % 256 = c.toNat := by omega
                have Hone := Lib.hid (fun w => one_any c w)
                have hf : (⟨(frm c).toArray⟩ : ByteArray).size = (frm c).length := ba_size _
                have hf4 := (frm_len c).1
                have hf0 := (frm_len c).2
                have Hfb : Hid (bs ⟨(frm c).toArray⟩ = frm c) := rfl
                generalize (⟨(frm c).toArray⟩ : ByteArray) = f at Hone hf Hfb
                by_cases hpre : frm c <+: (bs s).drop p
                · have Hn := Lib.hid (hu.out.more hpre)
                  have hl : (frm c).length ≤ s.size - p := by
                    have := hpre.length_le
                    rwa [List.length_drop, bs_length] at this
                  have Hst := Lib.hid (fun w => starts_as (s.extract p s.size) f true w (by rw [Hfb.out, Hx1.out]; exact (pre_iff _ _).2 hpre))
                  have Hu2 : Hid (bs (t ++ ⟨#[c]⟩) = bs t ++ [c]) := by show _ = _; rw [bs_append]; rfl
                  have hu2 : (t ++ ⟨#[c]⟩ : ByteArray).size = t.size + 1 := ByteArray.size_append
                  have hcv := fun w' b => run_string_one w' b 1 (c.toNat : Int) c rfl
                  have hadd := fun w' => run_string_add_sum (P := Tryd.prog) (w := w') t ⟨#[c]⟩ (by show t.size + 1 ≤ _; omega)
                  clear hpre
                  generalize (frm c).length = n at hf hf4 hf0 Hn hl
                  go_wp2_with fail
                  refine (Hone.out _).mono ?_
                  rintro e w1 ⟨rfl, hb3⟩
                  go_wp2_with fail
                  refine (Hst.out _).mono ?_
                  rintro e w2 ⟨rfl, rfl⟩
                  go_wp2_with fail
                  go_roundw
                  case rel => exact ⟨c.toNat + 1, by omega, by go_num, (hb2.trans (hb3.mono hsz2)).alloc (by have := hb3.size; omega) _, .inr ⟨rfl, p + n, t ++ ⟨#[c]⟩, by omega, by omega, rfl, by go_num, by rw [hu2]; omega, by show Unq _ _ _; rw [Hu2.out]; exact Hn.out⟩⟩
                  case measure => simp [intOf]; omega
                · have Hst := Lib.hid (fun w => starts_as (s.extract p s.size) f false w (by rw [Hfb.out, Hx1.out]; exact pre_no hpre))
                  have HS2 : Hid (Srch ((bs s).drop p) (c.toNat + 1)) := fun d hd hp => by
                    by_cases hdc : d.toNat = c.toNat
                    · rw [UInt8.toNat_inj.1 hdc] at hp; exact hpre hp
                    · exact hS.out d (by omega) hp
                  clear hpre
                  go_wp2_with fail
                  refine (Hone.out _).mono ?_
                  rintro e w1 ⟨rfl, hb3⟩
                  go_wp2_with fail
                  refine (Hst.out _).mono ?_
                  rintro e w2 ⟨rfl, rfl⟩
                  go_wp2_with fail
                  go_roundw
                  case rel => exact ⟨c.toNat + 1, by omega, by go_num, hb2.trans (hb3.mono hsz2), .inl ⟨rfl, rfl, rfl, HS2.out⟩⟩
                  case measure => simp [intOf]; omega
              · have Hv := Lib.hid (uqV_no (hu.out.none (fun c hc => hS.out c (by have := c.toNat_lt; omega) hc) (by rw [Ap.out]; intro h; exact u8ne (d := 34) (by omega) h34 (Option.some.inj h))))
                go_wp2_with fail
                go_ret3
                exact ⟨by rw [Hv.out]; rfl, hb2⟩
            · by_cases hk2 : k < 256
              · go_wp2_with fail
                go_roundw
                case rel => exact ⟨q, u, by omega, hq2, rfl, rfl, hu1, hU.out, hb2⟩
                case measure => simp [intOf]; omega
              · go_wp2_with fail
                go_roundw
                case rel => exact ⟨q, u, by omega, hq2, rfl, rfl, hu1, hU.out, hb2⟩
                case measure => simp [intOf]; omega
      · have Hv := Lib.hid (uqV_no (hu.out.none (fun c hc => by
          rw [List.drop_eq_nil_of_le (by rw [bs_length]; omega)] at hc
          have h1 := (frm_len c).2
          have h2 := hc.length_le
          simp at h2; rw [h2] at h1; simp at h1) (by rw [List.getElem?_eq_none (by rw [bs_length]; omega)]; simp)))
        go_wp2
        go_ret3
        exact ⟨by rw [Hv.out]; rfl, hb⟩
  · have d0 : ((s[0].toNat : Int) != 34) = true := by simp; omega
    have Hv := Lib.hid (uqV_no (uq_start (l := bs s) (by rw [A0.out]; intro h; exact u8ne (d := 34) (by omega) h1 (Option.some.inj h))))
    go_enter Tryd.func53, Tryd.ntmps53
    go_wp2_with fail
    go_ret3
    exact ⟨by rw [Hv.out]; rfl, Below.refl _ _⟩
end Go.Proofs.YtgoefndbpfhhaaaDoor
