/-
  Texts that the proof needs, one behind the other: DtxLooC, DtxLoo2C.
-/
import Derived.Deep.LoopGhost
import Derived.Deep.CutBlock
import Derived.Deep.DeepCutAuto
import Derived.Test.YtebldfnocpcddaaGreatDoorPart1
import Derived.Test.YtebldfnocpcddaaGreatDoorPart40
import Derived.Test.YtebldfnocpcddaaGreatDoorPart42

/-
  law10's plainText and loose.
-/
namespace Go.Proofs.YtebldfnocpcddaaGreatDoor
open Go.RowKit

set_option maxRecDepth 100000 in
set_option maxHeartbeats 1600000 in
theorem plain10_any (s : ByteArray) (w : World) (hs : s.size ≤ 1000000) :
    Calls Tryz.prog 16 #[.string s] w fun e w' => e = .returned (.bool (decide ((92 : UInt8) ∉ bs s))) ∧ Below w.heap.size w w' := by
  obtain ⟨V, hV⟩ : ∃ V, decide ((92 : UInt8) ∉ bs s) = V := ⟨_, rfl⟩
  have HV := Lib.hid hV
  rw [hV]
  clear hV
  go_enter Tryz.func16, Tryz.ntmps16
  go_wp2_with fail
  go_loopw [3] (fun i wr => ∃ k : Nat, k ≤ s.size ∧ i = .int .i64 (k : Int) ∧ Hid (∀ j, j < k → (bs s)[j]? ≠ some 92) ∧ Hid (Below w.heap.size w wr)) (fun i _ => s.size - (intOf i).toNat)
  case atStart => exact ⟨0, by omega, rfl, fun j h => absurd h (by omega), Below.refl _ _⟩
  case round =>
    obtain ⟨k, hk, rfl, Hno, Hb⟩ := hrel
    by_cases hlt : k < s.size
    · have hltI : (k : Int) < (s.size : Int) := by omega
      have hat := Lib.hid (bs_at s k hlt)
      have hw1 : IntKind.i64.wrap ((k : Int) + 1) = (k : Int) + 1 := IntWalk.i64_in _ (by omega)
      by_cases hc : s[k].toNat = 92
      · have t1 : ((s[k].toNat : Int) == 92) = true := by simp [hc]
        have HF : Hid (V = false) := by
          show _ = _
          rw [← HV.out]
          have : (92 : UInt8) ∈ bs s := by
            have h1 := hat.out
            rw [show s[k] = 92 from UInt8.toNat_inj.1 (by rw [hc]; rfl)] at h1
            exact List.mem_of_getElem? h1
          simpa using this
        clear hc
        go_wp2_with fail
        go_ret
        exact ⟨by rw [HF.out]; rfl, Hb.out⟩
      · have t1 : ((s[k].toNat : Int) == 92) = false := by simp; omega
        have Hn : Hid ((bs s)[k]? ≠ some 92) := by
          intro e
          rw [hat.out] at e
          have e2 : s[k] = 92 := by simpa using e
          apply hc; rw [e2]; rfl
        clear hc
        go_wp2_with fail
        go_roundw
        case rel =>
          refine ⟨k + 1, by omega, by go_num, fun j h => ?_, Hb.out⟩
          by_cases hj : j = k
          · subst hj; exact Hn.out
          · exact Hno.out j (by omega)
        case measure => simp [intOf]; omega
    · obtain rfl : k = s.size := by omega
      have hltI : ¬ ((s.size : Int) < (s.size : Int)) := by omega
      have HF : Hid (V = true) := by
        show _ = _
        rw [← HV.out]
        have : (92 : UInt8) ∉ bs s := fun h => by
          obtain ⟨j, hj, he⟩ := List.getElem_of_mem h
          exact Hno.out j (by rwa [bs_length] at hj) (by rw [List.getElem?_eq_getElem hj, he])
        simpa using this
      clear hlt
      go_wp2_with fail
      go_ret
      exact ⟨by rw [HF.out]; rfl, Hb.out⟩
/-- blanks behind a blank: so many of three -/
def xB (m : Nat) : List UInt8 := ([32, 9, 10] : List UInt8).take m
theorem xB_sp {m : Nat} : Sp (xB m) := fun c hc => by
  have := List.mem_of_mem_take hc
  rcases List.mem_cons.1 this with rfl | h
  · decide
  rcases List.mem_cons.1 h with rfl | h
  · decide
  rcases List.mem_cons.1 h with rfl | h
  · decide
  · cases h
theorem lse_snoc (X : List UInt8) (l o : List UInt8) (q : Bool) (c : UInt8) (h : lse X false l = (o, q)) :
    lse X false (l ++ [c]) = (o ++ (c :: (if c = 32 ∧ (if c = 34 then !q else q) = false then X else [])), if c = 34 then !q else q) := by
  rw [lse_append, h]
  show (o ++ (lse X q [c]).1, (lse X q [c]).2) = _
  unfold lse lse
  simp
end Go.Proofs.YtebldfnocpcddaaGreatDoor

/-
  law10's loose.
-/
namespace Go.Proofs.YtebldfnocpcddaaGreatDoor
open Go.RowKit

set_option maxRecDepth 100000 in
set_option maxHeartbeats 6400000 in
theorem loose10_any (s : ByteArray) (z : Int) (m : Nat) (x : ByteArray) (w : World) (hs : s.size ≤ 100000) (hz : z.tmod 3 = (m : Int)) (hm2 : m ≤ 2) (h92 : (92 : UInt8) ∉ bs s) (hx : bs x = (lse (xB m) false (bs s)).1) :
    Calls Tryz.prog 17 #[.string s, .int .u8 z] w fun e w' => e = .returned (.string x) ∧ Below w.heap.size w w' := by
  have H92 : Hid (∀ k (h : k < s.size), s[k].toNat ≠ 92) := fun k h e => h92 (by
    have h1 := bs_at s k h
    rw [show s[k] = 92 from UInt8.toNat_inj.1 (by rw [e]; rfl)] at h1
    exact List.mem_of_getElem? h1)
  have fin : Hid (∀ y : ByteArray, bs y = (lse (xB m) false (bs s)).1 → y = x) := fun y hy => bs_eq (by rw [hy, hx])
  have hzw : IntKind.u8.wrap (z.tmod 3) = (m : Int) := by rw [hz]; unfold IntKind.wrap; go_arith
  clear h92 hx
  go_enter Tryz.func17, Tryz.ntmps17
  go_wp2_with fail
  go_loopg [5, 6, 7] s.size (fun g o bb i wr => ∃ (k : Nat) (so : ByteArray) (q : Bool), k + g = s.size ∧ o = .string so ∧ bb = .bool q ∧ i = .int .i64 (k : Int) ∧ so.size ≤ 3 * k ∧ Hid (lse (xB m) false ((bs s).take k) = (bs so, q)) ∧ Hid (Below w.heap.size w wr))
  case atStart => exact ⟨0, ⟨#[]⟩, false, Nat.zero_add _, rfl, rfl, rfl, Nat.le_refl _, rfl, Below.refl _ _⟩
  case round =>
    obtain ⟨k, so, q, hk, rfl, rfl, rfl, hsz, HL, Hb⟩ := hrel
    by_cases hlt : k < s.size
    · obtain ⟨gg, rfl⟩ : ∃ gg, gk = gg + 1 := ⟨gk - 1, by omega⟩
      have HGG : Hid (k + 1 + gg = s.size) := by show _ = _; omega
      have hltI : (k : Int) < (s.size : Int) := by omega
      have hat := Lib.hid (bs_at s k hlt)
      have hw1 : IntKind.i64.wrap ((k : Int) + 1) = (k : Int) + 1 := IntWalk.i64_in _ (by omega)
      have l1 : decide (s.size ≤ k) = false := by simp; omega
      have l2 : (k : Int) + 1 ≤ (s.size : Int) := by omega
      have l3 : k + 1 ≤ s.size := by omega
      have hsl : (s.extract k (k + 1)).size ≤ 1 := by rw [ByteArray.size_extract]; omega
      obtain ⟨u, f1, g1, r1⟩ := add_ex so (s.extract k (k + 1)) (3 * k) 1 hsz hsl (by omega)
      have h1 : bs (s.extract k (k + 1)) = [s[k]] := by
        rw [bs_extract, List.take_add_one, List.drop_append_of_le_length (by rw [List.length_take, bs_length]; omega), hat.out, List.drop_eq_nil_of_le (by rw [List.length_take, bs_length]; omega)]; rfl
      have HU : Hid (bs u = bs so ++ [s[k]]) := by show _ = _; rw [f1, h1]
      have HS : Hid (lse (xB m) false ((bs s).take (k + 1)) = (bs so ++ (s[k] :: (if s[k] = 32 ∧ (if s[k] = 34 then !q else q) = false then xB m else [])), if s[k] = 34 then !q else q)) := by
        show _ = _
        rw [List.take_add_one, hat.out]
        exact lse_snoc _ _ _ _ _ HL.out
      have Hus1 : Hid (u.size ≤ 3 * k + 1) := g1
      have Husz : Hid (u.size ≤ 3 * (k + 1)) := by show _ ≤ _; omega
      clear f1 g1 h1 hsl hk
      by_cases h34 : s[k].toNat = 34
      · have t34 : ((s[k].toNat : Int) == 34) = true := by simp [h34]
        have t32 : ((s[k].toNat : Int) == 32) = false := by simp [h34]
        have e34 : s[k] = 34 := UInt8.toNat_inj.1 (by rw [h34]; rfl)
        have HL1 : Hid (lse (xB m) false ((bs s).take (k + 1)) = (bs u, !q)) := by
          show _ = _
          rw [HS.out, HU.out, if_pos e34, if_neg (fun h => absurd (e34.symm.trans h.1) (by decide))]
        clear h34 e34
        by_cases h0 : k = 0
        · have tk : ((k : Int) == 0) = true := by simp [h0]
          clear h0
          go_wp2_with fail
          go_loopg [5, 8] 0 (fun g o kk wx => o = .string u ∧ kk = .int .u8 0 ∧ Hid (wx = wr))
          case atStart => exact ⟨rfl, rfl, rfl⟩
          case round =>
            obtain ⟨rfl, rfl, hwx⟩ := hrel
            obtain rfl := hwx.out
            clear hwx
            by_cases hm0 : m = 0
            · have mI : ¬ (0 : Int) < (m : Int) := by omega
              clear hm0
              go_wp2_with fail
              go_roundg gg
              case measure => omega
              case rel => exact ⟨k + 1, u, !q, HGG.out, rfl, rfl, by go_num, Husz.out, HL1.out, Hb.out⟩
            · have mI : (0 : Int) < (m : Int) := by omega
              clear hm0
              go_wp2_with fail
              go_roundg gg
              case measure => omega
              case rel => exact ⟨k + 1, u, !q, HGG.out, rfl, rfl, by go_num, Husz.out, HL1.out, Hb.out⟩
        · have tk : ((k : Int) == 0) = false := by simp; omega
          obtain ⟨k', rfl⟩ : ∃ k', k = k' + 1 := ⟨k - 1, by omega⟩
          have hp := H92.out k' (by omega)
          have tp : ((s[k'].toNat : Int) != 92) = true := by simp; omega
          have tp2 : ((s[k'].toNat : Int) == 92) = false := by simp; omega
          have hw2 : IntKind.i64.wrap (((k' + 1 : Nat) : Int) - 1) = (k' : Int) := by rw [IntWalk.i64_in _ (by omega)]; omega
          have hk'1 : (k' : Int) < (s.size : Int) := by omega
          have hk'0 : (0 : Int) ≤ (k' : Int) := by omega
          have hk'2 : k' < s.size := by omega
          clear h0 hp
          go_wp2_with fail
          go_loopg [5, 8] 0 (fun g o kk wx => o = .string u ∧ kk = .int .u8 0 ∧ Hid (wx = wr))
          case atStart => exact ⟨rfl, rfl, rfl⟩
          case round =>
            obtain ⟨rfl, rfl, hwx⟩ := hrel
            obtain rfl := hwx.out
            clear hwx
            by_cases hm0 : m = 0
            · have mI : ¬ (0 : Int) < (m : Int) := by omega
              clear hm0
              go_wp2_with fail
              go_roundg gg
              case measure => omega
              case rel => exact ⟨k' + 1 + 1, u, !q, HGG.out, rfl, rfl, by go_num, Husz.out, HL1.out, Hb.out⟩
            · have mI : (0 : Int) < (m : Int) := by omega
              clear hm0
              go_wp2_with fail
              go_roundg gg
              case measure => omega
              case rel => exact ⟨k' + 1 + 1, u, !q, HGG.out, rfl, rfl, by go_num, Husz.out, HL1.out, Hb.out⟩
      · have t34 : ((s[k].toNat : Int) == 34) = false := by simp; omega
        have e34 : ¬ s[k] = 34 := fun e => h34 (by rw [e]; rfl)
        clear h34
        by_cases h32 : s[k].toNat = 32
        · have t32 : ((s[k].toNat : Int) == 32) = true := by simp [h32]
          have e32 : s[k] = 32 := UInt8.toNat_inj.1 (by rw [h32]; rfl)
          clear h32
          cases q
          · have HL1 : Hid (lse (xB m) false ((bs s).take (k + 1)) = (bs u ++ xB m, false)) := by
              show _ = _
              rw [HS.out, HU.out, if_neg e34, if_pos ⟨e32, by simp⟩, List.append_assoc]; rfl
            clear e34 e32
            go_wp2_with fail
            go_loopg [5, 8] m (fun g o kk wx => ∃ (j : Nat) (so2 : ByteArray), j + g = m ∧ o = .string so2 ∧ kk = .int .u8 (j : Int) ∧ so2.size ≤ 3 * k + 1 + j ∧ Hid (bs so2 = bs u ++ (xB m).take j) ∧ Hid (Below w.heap.size w wx))
            case atStart => exact ⟨0, u, Nat.zero_add _, rfl, rfl, by have := Hus1.out; omega, by show _ = _; simp, Hb.out⟩
            case round =>
              obtain ⟨j, so2, hj, rfl, rfl, hsz2, HB2, Hb2⟩ := hrel
              by_cases hjm : j < m
              · obtain ⟨g2, rfl⟩ : ∃ g2, gk = g2 + 1 := ⟨gk - 1, by omega⟩
                have HG2 : Hid (j + 1 + g2 = m) := by show _ = _; omega
                rcases (show j = 0 ∨ j = 1 by omega) with hj0 | hj0
                · subst hj0
                  have mI : (0 : Int) < (m : Int) := by omega
                  have mw : IntKind.u8.wrap ((0 : Int) + 1) = (0 : Int) + 1 := by decide
                  have HX2 : Hid ((xB m).take (0 + 1) = (xB m).take 0 ++ [32]) := by
                    show _ = _
                    rw [List.take_add_one]
                    congr 1
                    unfold xB
                    rw [List.getElem?_take_of_lt hjm]; rfl
                  obtain ⟨w5, hw5⟩ : ∃ w5, wr.alloc (.cells #[.string ⟨#[32]⟩, .string ⟨#[9]⟩, .string ⟨#[10]⟩] 9) = w5 := ⟨_, rfl⟩
                  have Hb5 : Hid (Below w.heap.size w w5) := by rw [← hw5]; exact Hb2.out.alloc Hb2.out.size _
                  obtain ⟨u2, f2, g3, q2⟩ := add_ex so2 ⟨#[32]⟩ (3 * k + 1 + 0) 1 hsz2 (Nat.le_refl 1) (by omega)
                  have HB3 : Hid (bs u2 = bs u ++ (xB m).take (0 + 1)) := by
                    show _ = _
                    rw [f2, HB2.out, HX2.out, List.append_assoc]; rfl
                  have Hsz3 : Hid (u2.size ≤ 3 * k + 1 + (0 + 1)) := g3
                  have Hw5 := Lib.hid hw5
                  clear f2 g3 hw5 hjm hj
                  go_wp2_with fail
                  try rw [Hw5.out]
                  try go_wp2_with fail
                  go_roundg g2
                  case measure => omega
                  case rel => exact ⟨0 + 1, u2, HG2.out, rfl, by go_num, Hsz3.out, HB3.out, Hb5.out⟩
                · subst hj0
                  have mI : (1 : Int) < (m : Int) := by omega
                  have mw : IntKind.u8.wrap ((1 : Int) + 1) = (1 : Int) + 1 := by decide
                  have HX2 : Hid ((xB m).take (1 + 1) = (xB m).take 1 ++ [9]) := by
                    show _ = _
                    rw [List.take_add_one]
                    congr 1
                    unfold xB
                    rw [List.getElem?_take_of_lt hjm]; rfl
                  obtain ⟨w5, hw5⟩ : ∃ w5, wr.alloc (.cells #[.string ⟨#[32]⟩, .string ⟨#[9]⟩, .string ⟨#[10]⟩] 9) = w5 := ⟨_, rfl⟩
                  have Hb5 : Hid (Below w.heap.size w w5) := by rw [← hw5]; exact Hb2.out.alloc Hb2.out.size _
                  obtain ⟨u2, f2, g3, q2⟩ := add_ex so2 ⟨#[9]⟩ (3 * k + 1 + 1) 1 hsz2 (Nat.le_refl 1) (by omega)
                  have HB3 : Hid (bs u2 = bs u ++ (xB m).take (1 + 1)) := by
                    show _ = _
                    rw [f2, HB2.out, HX2.out, List.append_assoc]; rfl
                  have Hsz3 : Hid (u2.size ≤ 3 * k + 1 + (1 + 1)) := g3
                  have Hw5 := Lib.hid hw5
                  clear f2 g3 hw5 hjm hj
                  go_wp2_with fail
                  try rw [Hw5.out]
                  try go_wp2_with fail
                  go_roundg g2
                  case measure => omega
                  case rel => exact ⟨1 + 1, u2, HG2.out, rfl, by go_num, Hsz3.out, HB3.out, Hb5.out⟩
              · obtain rfl : j = m := by omega
                have mI : ¬ (j : Int) < (j : Int) := by omega
                have HL2 : Hid (lse (xB j) false ((bs s).take (k + 1)) = (bs so2, false)) := by
                  show _ = _
                  have hxl : (xB j).length = j := by unfold xB; rw [List.length_take]; show min j 3 = j; omega
                  rw [HB2.out, HL1.out, show (xB j).take j = xB j from List.take_of_length_le (by omega)]
                have Hsz3 : Hid (so2.size ≤ 3 * (k + 1)) := by show _ ≤ _; omega
                clear hj hjm hsz2
                go_wp2_with fail
                go_roundg gg
                case measure => omega
                case rel => exact ⟨k + 1, so2, false, HGG.out, rfl, rfl, by go_num, Hsz3.out, HL2.out, Hb2.out⟩
          · have HL1 : Hid (lse (xB m) false ((bs s).take (k + 1)) = (bs u, true)) := by
              show _ = _
              rw [HS.out, HU.out, if_neg e34, if_neg (fun h => by have := h.2; simp at this)]
            clear e34 e32
            go_wp2_with fail
            go_loopg [5, 8] 0 (fun g o kk wx => o = .string u ∧ kk = .int .u8 0 ∧ Hid (wx = wr))
            case atStart => exact ⟨rfl, rfl, rfl⟩
            case round =>
              obtain ⟨rfl, rfl, hwx⟩ := hrel
              obtain rfl := hwx.out
              clear hwx
              by_cases hm0 : m = 0
              · have mI : ¬ (0 : Int) < (m : Int) := by omega
                clear hm0
                go_wp2_with fail
                go_roundg gg
                case measure => omega
                case rel => exact ⟨k + 1, u, true, HGG.out, rfl, rfl, by go_num, Husz.out, HL1.out, Hb.out⟩
              · have mI : (0 : Int) < (m : Int) := by omega
                clear hm0
                go_wp2_with fail
                go_roundg gg
                case measure => omega
                case rel => exact ⟨k + 1, u, true, HGG.out, rfl, rfl, by go_num, Husz.out, HL1.out, Hb.out⟩
        · have t32 : ((s[k].toNat : Int) == 32) = false := by simp; omega
          have HL1 : Hid (lse (xB m) false ((bs s).take (k + 1)) = (bs u, q)) := by
            show _ = _
            rw [HS.out, HU.out, if_neg e34, if_neg (fun h => h32 (by rw [h.1]; rfl))]
          clear e34 h32
          go_wp2_with fail
          go_loopg [5, 8] 0 (fun g o kk wx => o = .string u ∧ kk = .int .u8 0 ∧ Hid (wx = wr))
          case atStart => exact ⟨rfl, rfl, rfl⟩
          case round =>
            obtain ⟨rfl, rfl, hwx⟩ := hrel
            obtain rfl := hwx.out
            clear hwx
            by_cases hm0 : m = 0
            · have mI : ¬ (0 : Int) < (m : Int) := by omega
              clear hm0
              go_wp2_with fail
              go_roundg gg
              case measure => omega
              case rel => exact ⟨k + 1, u, q, HGG.out, rfl, rfl, by go_num, Husz.out, HL1.out, Hb.out⟩
            · have mI : (0 : Int) < (m : Int) := by omega
              clear hm0
              go_wp2_with fail
              go_roundg gg
              case measure => omega
              case rel => exact ⟨k + 1, u, q, HGG.out, rfl, rfl, by go_num, Husz.out, HL1.out, Hb.out⟩
    · obtain rfl : k = s.size := by omega
      have hltI : ¬ ((s.size : Int) < (s.size : Int)) := by omega
      have HF : Hid (so = x) := fin.out so (by
        have := HL.out
        rw [List.take_of_length_le (by rw [bs_length]; exact Nat.le_refl _)] at this
        rw [this])
      clear hlt hk hsz
      go_wp2_with fail
      go_ret
      exact ⟨by rw [HF.out]; rfl, Hb.out⟩
end Go.Proofs.YtebldfnocpcddaaGreatDoor
