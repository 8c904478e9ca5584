/-
  Contract of the document's own unhex.
-/
import Derived.Test.YtgoefndbpfhhaaaDoorValHexC
import Derived.Test.YtgoefndbpfhhaaaDoorUtfLivesC
namespace Go.Proofs.YtgoefndbpfhhaaaDoor
open Go.RowKit

/-- how unhex ends -/
def UnhV (l : List UInt8) (w : World) (e : Ending) (w' : World) : Prop :=
  ∃ (U : ByteArray) (k : Nat), e = .returned (.tuple #[.string U, .int .i64 (k : Nat), .bool (uh l).2.2]) ∧ ((uh l).2.2 = true → bs U = (uh l).1 ∧ k = (uh l).2.1) ∧ Below w.heap.size w w'
theorem UnhV.yes {l : List UInt8} {U : ByteArray} {k : Nat} {w w' : World} (h : uh l = (bs U, k, true)) (hb : Below w.heap.size w w') : UnhV l w (.returned (.tuple #[.string U, .int .i64 (k : Nat), .bool true])) w' :=
  ⟨U, k, by rw [h], fun _ => by rw [h]; exact ⟨rfl, rfl⟩, hb⟩
theorem UnhV.no {l : List UInt8} {U : ByteArray} {k : Nat} {w w' : World} (h : uh l = ([], 0, false)) (hb : Below w.heap.size w w') : UnhV l w (.returned (.tuple #[.string U, .int .i64 (k : Nat), .bool false])) w' :=
  ⟨U, k, by rw [h], (fun e => by rw [h] at e; cases e), hb⟩
theorem pair_len (l : List UInt8) (p : Nat) (h : l.length < p + 2) (c : UInt8) : (l.drop p).take 2 ≠ hp c := fun e => by
  have := congrArg List.length e
  simp [hp] at this; omega
theorem u8_lt256 (P : UInt8 → Prop) (h : ∀ d, d < 256 → P (UInt8.ofNat d)) (c : UInt8) : P c := by
  have := h c.toNat c.toNat_lt
  simpa using this
/-- none of the first C bytes has its digits here -/
def NoHp (l : List UInt8) (p C : Nat) : Prop := ∀ d, d < C → (l.drop p).take 2 ≠ hp (UInt8.ofNat d)
theorem NoHp.more {l : List UInt8} {p C : Nat} (h : NoHp l p C) (h2 : (l.drop p).take 2 ≠ hp (UInt8.ofNat C)) : NoHp l p (C + 1) := fun d hd => by
  by_cases e : d = C
  · subst e; exact h2
  · exact h d (by omega)
theorem NoHp.all {l : List UInt8} {p : Nat} (h : NoHp l p 256) (c : UInt8) : (l.drop p).take 2 ≠ hp c := u8_lt256 (fun c => (l.drop p).take 2 ≠ hp c) h c
theorem two_front (s : ByteArray) (p : Nat) : bs (s.extract p (p + 2)) = ((bs s).drop p).take 2 := by
  rw [bs_extract, List.drop_take, Nat.add_sub_cancel_left]
theorem str_snoc {U : ByteArray} {c : UInt8} : bs (U ++ ⟨#[c]⟩) = bs U ++ [c] := by rw [bs_append]; rfl

set_option maxRecDepth 100000 in
set_option maxHeartbeats 3200000 in
theorem runhex_any (s : ByteArray) (w : World) (hs : s.size ≤ 1000000) : Calls Tryd.prog 55 #[.string s] w fun e w' => UnhV (bs s) w e w' := by
  go_enter Tryd.func55, Tryd.ntmps55
  go_wp2_with fail
  go_loopw [5, 6] (fun o p wr => ∃ (P : Nat) (U : ByteArray), P ≤ s.size ∧ o = .string U ∧ p = .int .i64 P ∧ Hid (Unh (bs s) (bs U) P) ∧ Below w.heap.size w wr) (fun _ p _ => s.size - (intOf p).toNat)
  case atStart => exact ⟨0, ⟨#[]⟩, by omega, rfl, rfl, Unh.start _, Below.refl _ _⟩
  case round =>
    obtain ⟨P, U, hP, rfl, rfl, hU, hb⟩ := hrel
    by_cases hlt : P < s.size
    · have HA := Lib.hid (bs_at s P hlt)
      by_cases hq : s[P].toNat = 34
      · have d1 : ((s[P].toNat : Int) != 34) = false := by simp; omega
        have Hr := Lib.hid (hU.out.stop (by rw [HA.out, UInt8.toNat_inj.1 (show s[P].toNat = (34 : UInt8).toNat from hq)]))
        go_wp2_with fail
        go_ret3
        exact UnhV.yes Hr.out hb
      · have d1 : ((s[P].toNat : Int) != 34) = true := by simp; omega
        have Hnq : Hid ((bs s)[P]? ≠ some 34) := fun e => hq (by rw [HA.out] at e; rw [Option.some.inj e]; rfl)
        have hUl : U.size ≤ P := by
          have h1 := hU.out.1
          rw [hxs_len, bs_length] at h1; omega
        have hsz := hb.size
        clear hq
        go_wp2_with fail
        go_loopw [5, 6, 7, 8] (fun o p f c wi => ∃ (C : Nat), C ≤ 256 ∧ c = .int .i64 C ∧ Below w.heap.size w wi ∧ ((f = .bool false ∧ o = .string U ∧ p = .int .i64 P ∧ Hid (NoHp (bs s) P C)) ∨ (∃ V, f = .bool true ∧ o = .string V ∧ p = .int .i64 ((P + 2 : Nat) : Int) ∧ P + 2 ≤ s.size ∧ Hid (Unh (bs s) (bs V) (P + 2))))) (fun _ _ _ c _ => 256 - (intOf c).toNat)
        case atStart => exact ⟨0, by omega, rfl, hb, .inl ⟨rfl, rfl, rfl, fun d hd => absurd hd (by omega)⟩⟩
        case round =>
          obtain ⟨C, hC, rfl, hb2, ⟨rfl, rfl, rfl, hno⟩ | ⟨V, rfl, rfl, rfl, hP2, hV⟩⟩ := hrel
          · have hs2 := hb2.size
            by_cases hC2 : C < 256
            · have hcv := fun w' => run_string_one w' wr.heap.size 1 (C : Int) (UInt8.ofNat C) (by simp; omega)
              by_cases hP2 : P + 2 ≤ s.size
              · have dP : decide ((P : Int) + 2 ≤ (s.size : Int)) = true := by simp; omega
                have i1 : (P : Int) + 2 ≤ (s.size : Int) := by omega
                have i2 : (0 : Int) ≤ (P : Int) := by omega
                have i3 : (P : Int) ≤ (P : Int) + 2 := by omega
                have HX := Lib.hid (fun w => rhex_any ⟨#[UInt8.ofNat C]⟩ w (by show 1 ≤ _; omega))
                by_cases heq : ((bs s).drop P).take 2 = hp (UInt8.ofNat C)
                · have hXe : (⟨(hxs (bs ⟨#[UInt8.ofNat C]⟩)).toArray⟩ : ByteArray) = s.extract P (P + 2) := bs_eq (by
                    rw [two_front, heq]
                    exact bs_mk _)
                  rw [hXe] at HX
                  clear hXe
                  have HM := Lib.hid (hU.out.more heq)
                  rw [← str_snoc (U := U)] at HM
                  have hadd := fun w' => run_string_add_sum (P := Tryd.prog) (w := w') U ⟨#[UInt8.ofNat C]⟩ (by show U.size + 1 ≤ _; omega)
                  have dc : ((s.extract P (P + 2)).toList == (s.extract P (P + 2)).toList) = true := by simp
                  clear heq
                  go_wp2_with fail
                  go_quiet (first | (go_at_call 45; refine Calls.quiet_of (HX.out _)))
                  go_wp2_with fail
                  go_roundw
                  case rel => exact ⟨C + 1, by omega, by go_num, below_drewN (hb2.alloc hs2 _) _, .inr ⟨_, rfl, rfl, by go_num, hP2, HM.out⟩⟩
                  case measure => simp [intOf]; omega
                · have dc : ((s.extract P (P + 2)).toList == (⟨(hxs (bs ⟨#[UInt8.ofNat C]⟩)).toArray⟩ : ByteArray).toList) = false := cmp_ne (fun e => heq (by
                    rw [← two_front, e]
                    exact bs_mk _))
                  have HM := Lib.hid (hno.out.more heq)
                  generalize (⟨(hxs (bs ⟨#[UInt8.ofNat C]⟩)).toArray⟩ : ByteArray) = X at HX dc
                  clear heq
                  go_wp2_with fail
                  go_quiet (first | (go_at_call 45; refine Calls.quiet_of (HX.out _)))
                  go_wp2_with fail
                  go_roundw
                  case rel => exact ⟨C + 1, by omega, by go_num, below_drewN (hb2.alloc hs2 _) _, .inl ⟨rfl, rfl, rfl, HM.out⟩⟩
                  case measure => simp [intOf]; omega
              · have dP : decide ((P : Int) + 2 ≤ (s.size : Int)) = false := by simp; omega
                have HM := Lib.hid (hno.out.more (pair_len (bs s) P (by rw [bs_length]; omega) _))
                go_wp2_with fail
                go_quiet (fail)
                go_wp2
                go_roundw
                case rel => exact ⟨C + 1, by omega, by go_num, below_drewN (hb2.alloc hs2 _) _, .inl ⟨rfl, rfl, rfl, HM.out⟩⟩
                case measure => simp [intOf]; omega
            · obtain rfl : C = 256 := by omega
              have Hr := Lib.hid (hU.out.none hno.out.all Hnq.out)
              go_wp2_with fail
              go_ret3
              exact UnhV.no Hr.out hb2
          · by_cases hC2 : C < 256
            all_goals
              go_wp2_with fail
              go_roundw
              case rel => exact ⟨P + 2, V, hP2, rfl, by go_num, hV, hb2⟩
              case measure => simp [intOf]; omega
    · obtain rfl : P = s.size := by omega
      have Hr : Hid (uh (bs s) = ([], 0, false)) := hU.out.none (pair_len _ _ (by rw [bs_length]; omega)) (by rw [List.getElem?_eq_none (by rw [bs_length]; omega)]; simp)
      go_wp2_with fail
      go_ret3
      exact UnhV.no Hr.out hb
end Go.Proofs.YtgoefndbpfhhaaaDoor
