/-
  Texts that the proof needs, one behind the other: DtxRPC, DtxRP2C, DtxRes.
-/
import Derived.Deep.LoopGhost
import Derived.Deep.QuietTactic
import Derived.BigQuiet
import Derived.IntWalk
import Derived.Test.YtebldfnocpcddaaGreatDoorPart4
import Derived.Test.YtebldfnocpcddaaGreatDoorPart17
import Derived.Test.YtebldfnocpcddaaGreatDoorPart12

/-
  The document's own parser of changes (layer 10): blanks, bad, peek.
-/
namespace Go.Proofs.YtebldfnocpcddaaGreatDoor
open Go.RowKit

set_option maxRecDepth 100000 in
set_option maxHeartbeats 3200000 in
theorem rblanks_any (b : Nat) (s : ByteArray) (a e : Nat) (w : World) (h : PBx 67 w b s a e) (ha : a ≤ s.size) (hs : s.size ≤ 1000000) :
    Calls Tryz.prog 34 #[.pointer (some ⟨b, 0, none⟩)] w fun en w' => en = .returned (.tuple #[]) ∧ PBx 67 w' b s (nbE s a e) e ∧ Off (fun k => k = b) w w' := by
  have H := Lib.hid h; clear h
  have HA := Lib.hid ha; clear ha
  go_enter Tryz.func34, Tryz.ntmps34
  go_wp2_with fail
  go_loopg [] (s.size - a) (fun g wr => ∃ k : Nat, k + g = s.size ∧ Hid (PBx 67 wr b s k e) ∧ Hid (Off (fun j => j = b) w wr) ∧ Hid (bl ((bs s).drop a) = bl ((bs s).drop k)) ∧ Hid (e ≠ 0 → k = a))
  case atStart => exact ⟨a, by have := HA.out; omega, H, Off.refl _ _, rfl, fun _ => rfl⟩
  case round =>
    obtain ⟨k, hk, HP, HO, HB, HE⟩ := hrel
    obtain ⟨c0, c1, c2⟩ := HP.out.cells
    have f1 := HP.out.frozen 1
    have stop : Hid (e = 0 → (∀ c, (bs s)[k]? = some c → isBl c = false) → nb s a = k) := fun _ hc => nb_eq (by omega) (by rw [HB.out]; exact bl_end hc)
    have fin : Hid (nb s a = k → ∀ n : Nat, e = 0 → PBx 67 (wr.drewN n) b s (nbE s a e) e ∧ Off (fun j => j = b) w (wr.drewN n)) := fun hn n he => ⟨by unfold nbE; rw [if_pos he, hn]; exact HP.out, HO.out.then (below_drewN (Below.refl _ _) _)⟩
    by_cases he : e = 0
    · subst he
      have e0 : (((0 : Nat) : Int) == 0) = true := rfl
      by_cases hlt : k < s.size
      · have hlt2 : (k : Int) < (s.size : Int) := by omega
        have hat := Lib.hid (bs_at s k hlt)
        have go : Hid (isBl s[k] = true → ∀ n : Nat, PBx 67 ((wr.drewN n).setCell ⟨b, 1, none⟩ (.int .i64 (((k + 1 : Nat)) : Int))) b s (k + 1) 0 ∧ Off (fun j => j = b) w ((wr.drewN n).setCell ⟨b, 1, none⟩ (.int .i64 (((k + 1 : Nat)) : Int))) ∧ bl ((bs s).drop a) = bl ((bs s).drop (k + 1))) := fun hb n => by
          have hp : PBx 67 (wr.drewN n) b s k 0 := HP.out
          exact ⟨hp.setA (k + 1), (HO.out.then (below_drewN (Below.refl _ _) n)).trans (Off.set _ b 1 _), by rw [HB.out]; exact bl_go hat.out hb⟩
        have stay : Hid (isBl s[k] = false → nb s a = k) := fun hb => stop.out rfl fun c hc => by rw [hat.out] at hc; cases hc; exact hb
        have hic := Lib.hid (isBl_iff (c := s[k]))
        have hgk : ∃ g, gk = g + 1 := ⟨gk - 1, by omega⟩
        obtain ⟨g, rfl⟩ := hgk
        have HK : Hid (k + 1 + g = s.size) := by show _ = _; omega
        clear hk stop
        by_cases h1 : s[k].toNat = 32
        · have hgo := Lib.hid (go.out (hic.out.2 (.inl h1)))
          have t1 : ((s[k].toNat : Int) == 32) = true := by simp [h1]
          clear h1 go stay fin
          go_wp2_with fail
          go_quiet (fail)
          go_wp2_with fail
          go_roundg g
          case measure => omega
          case rel => exact ⟨k + 1, HK.out, (hgo.out _).1, (hgo.out _).2.1, (hgo.out 0).2.2, fun h => absurd rfl h⟩
        · have t1 : ((s[k].toNat : Int) == 32) = false := by simp; omega
          by_cases h2 : s[k].toNat = 9
          · have hgo := Lib.hid (go.out (hic.out.2 (.inr (.inl h2))))
            have t2 : ((s[k].toNat : Int) == 9) = true := by simp [h2]
            clear h1 h2 go stay fin
            go_wp2_with fail
            go_quiet (fail)
            go_wp2_with fail
            go_roundg g
            case measure => omega
            case rel => exact ⟨k + 1, HK.out, (hgo.out _).1, (hgo.out _).2.1, (hgo.out 0).2.2, fun h => absurd rfl h⟩
          · have t2 : ((s[k].toNat : Int) == 9) = false := by simp; omega
            by_cases h3 : s[k].toNat = 10
            · have hgo := Lib.hid (go.out (hic.out.2 (.inr (.inr h3))))
              have t3 : ((s[k].toNat : Int) == 10) = true := by simp [h3]
              clear h1 h2 h3 go stay fin
              go_wp2_with fail
              go_quiet (fail)
              go_wp2_with fail
              go_roundg g
              case measure => omega
              case rel => exact ⟨k + 1, HK.out, (hgo.out _).1, (hgo.out _).2.1, (hgo.out 0).2.2, fun h => absurd rfl h⟩
            · have t3 : ((s[k].toNat : Int) == 10) = false := by simp; omega
              have hF := Lib.hid (fun n => fin.out (stay.out (by
                cases hb : isBl s[k] with
                | false => rfl
                | true =>
                  rcases hic.out.1 hb with h | h | h
                  · exact absurd h h1
                  · exact absurd h h2
                  · exact absurd h h3)) n rfl)
              clear h1 h2 h3 go stay fin
              go_wp2_with fail
              go_quiet (fail)
              go_wp2_with fail
              go_end0
              exact ⟨rfl, hF.out _⟩
      · have hge : ¬ ((k : Int) < (s.size : Int)) := by omega
        have hF := Lib.hid (fun n => fin.out (stop.out rfl fun c hc => by rw [List.getElem?_eq_none (by rw [bs_length]; omega)] at hc; cases hc) n rfl)
        clear stop fin
        go_wp2_with fail
        go_quiet (fail)
        go_wp2_with fail
        go_end0
        exact ⟨rfl, hF.out _⟩
    · have e0 : ((e : Int) == 0) = false := by simp; omega
      have hF : Hid (∀ n : Nat, PBx 67 (wr.drewN n) b s (nbE s a e) e ∧ Off (fun j => j = b) w (wr.drewN n)) := fun n => ⟨by unfold nbE; rw [if_neg he]; have := HE.out he; subst this; exact HP.out, HO.out.then (below_drewN (Below.refl _ _) _)⟩
      clear he stop fin
      go_wp2_with fail
      go_quiet (fail)
      go_wp2_with fail
      go_end0
      exact ⟨rfl, hF.out _⟩
end Go.Proofs.YtebldfnocpcddaaGreatDoor

/-
  The document's own parser of changes (layer 10): bad, peek, want.
-/
namespace Go.Proofs.YtebldfnocpcddaaGreatDoor
open Go.RowKit

/-- the first error stays -/
def badE (e x : Nat) : Nat := if e = 0 then x else e
theorem badE_0 (x : Nat) : badE 0 x = x := rfl
theorem badE_1 {e : Nat} (x : Nat) (h : e ≠ 0) : badE e x = e := if_neg h
set_option maxRecDepth 100000 in
theorem rbad_any (b : Nat) (s : ByteArray) (a e x : Nat) (w : World) (h : PBx 67 w b s a e) :
    Calls Tryz.prog 35 #[.pointer (some ⟨b, 0, none⟩), .int .i64 (x : Int)] w fun en w' => en = .returned (.tuple #[]) ∧ PBx 67 w' b s a (badE e x) ∧ Off (fun k => k = b) w w' := by
  have H := Lib.hid h; clear h
  obtain ⟨c0, c1, c2⟩ := H.out.cells
  have f2 := H.out.frozen 2
  by_cases he : e = 0
  · subst he
    have e0 : (((0 : Nat) : Int) == 0) = true := rfl
    go_enter Tryz.func35, Tryz.ntmps35
    go_wp2_with fail
    go_end0
    exact ⟨rfl, H.out.setE x, Off.set _ _ _ _⟩
  · have e0 : ((e : Int) == 0) = false := by simp; omega
    have Hi := Lib.hid (badE_1 x he)
    clear he
    go_enter Tryz.func35, Tryz.ntmps35
    go_wp2_with fail
    go_end0
    exact ⟨rfl, by rw [Hi.out]; exact H.out, Off.refl _ _⟩

set_option maxRecDepth 100000 in
set_option maxHeartbeats 1600000 in
theorem rpeek_any (b : Nat) (s : ByteArray) (a e : Nat) (y : ByteArray) (w : World) (h : PBx 67 w b s a e) (ha : a ≤ s.size) (hs : s.size ≤ 1000000) (hy : bs y = wd ((bs s).drop (nbE s a e))) :
    Calls Tryz.prog 60 #[.pointer (some ⟨b, 0, none⟩)] w fun en w' => en = .returned (.string y) ∧ PBx 67 w' b s (nbE s a e) e ∧ Off (fun k => k = b) w w' := by
  have HB := Lib.hid (rblanks_any b s a e w h ha hs)
  have hk := nbE_le (e := e) ha
  clear ha h
  obtain ⟨k, hk0⟩ : ∃ k, nbE s a e = k := ⟨_, rfl⟩
  rw [hk0] at HB hk hy ⊢
  clear hk0
  have hx : bs (s.extract k s.size) = (bs s).drop k := by rw [bs_extract, List.take_of_length_le (by rw [bs_length]; omega)]
  have hle := rdN_le ((bs s).drop k)
  rw [List.length_drop, bs_length] at hle
  obtain ⟨m, hm⟩ : ∃ m, rdN ((bs s).drop k) = m := ⟨_, rfl⟩
  have HR : Hid (∀ w, Calls Tryz.prog 46 #[.string (s.extract k s.size)] w fun e w' => e = .returned (.int .i64 ((m : Nat) : Int)) ∧ w' = w) := fun w => by
    have := nrread_any (s.extract k s.size) w (by rw [ByteArray.size_extract]; omega)
    rw [hx, hm] at this
    exact this.mono fun _ _ ⟨h1, h2⟩ => ⟨h1, h2.symm⟩
  have Hy : Hid (s.extract k (k + m) = y) := bs_eq (by rw [hy, ← hm]; exact wd_piece)
  have w1 : IntKind.i64.wrap ((k : Int) + (m : Int)) = (k : Int) + (m : Int) := IntWalk.i64_in _ (by omega)
  rw [hm] at hle
  clear hy hx hm
  go_enter Tryz.func60, Tryz.ntmps60
  go_wp2_with fail
  refine HB.out.mono ?_
  rintro en w1 ⟨rfl, hp, ho⟩
  have HP := Lib.hid hp; have HO := Lib.hid ho; clear hp ho
  obtain ⟨c0, c1, c2⟩ := HP.out.cells
  go_wp2_with fail
  go_quiet (first | (go_at_call 46; refine Calls.quiet_of_same (HR.out _)))
  go_wp2_with fail
  go_ret
  exact ⟨by rw [Hy.out]; rfl, HP.out, HO.out.then (below_drewN (Below.refl _ _) _)⟩

theorem neL {a : ByteArray} {l : List UInt8} (h : bs a ≠ l) : (a.toList == l) = false := by
  cases hh : (a.toList == l) with
  | false => rfl
  | true =>
    have h2 := beq_iff_eq.1 hh
    rw [ByteArray.toList_eq] at h2
    exact absurd h2 h
theorem eqL {a : ByteArray} {l : List UInt8} (h : bs a = l) : (a.toList == l) = true := by
  rw [beq_iff_eq, ByteArray.toList_eq]
  exact h
theorem neS {a b : ByteArray} (h : bs a ≠ bs b) : (a.toList == b.toList) = false := by rw [ByteArray.toList_eq b]; exact neL h
theorem eqS' {a b : ByteArray} (h : bs a = bs b) : (a.toList == b.toList) = true := by rw [ByteArray.toList_eq b]; exact eqL h
set_option maxRecDepth 100000 in
set_option maxHeartbeats 1600000 in
/-- a word has to come -/
theorem rwant_any (b : Nat) (s : ByteArray) (a e : Nat) (x : ByteArray) (w : World) (h : PBx 67 w b s a e) (ha : a ≤ s.size) (hs : s.size ≤ 1000000) (hx : x.size ≤ 100) (hn : bs x ≠ [40] ∧ bs x ≠ [41] ∧ bs x ≠ [44]) :
    Calls Tryz.prog 64 #[.pointer (some ⟨b, 0, none⟩), .string x] w fun en w' => PEnd 67 (fun r => (pWord (bs x) r).bind fun q => .ok ((), q)) (fun _ => .tuple #[]) b s a e w en w' := by
  have HB := Lib.hid (rblanks_any b s a e w h ha hs)
  have hk := nbE_le (e := e) ha
  by_cases he : e = 0
  · subst he
    have HS := Lib.hid (nbE_sk (e := 0) ha)
    have HW := Lib.hid (PTo.word (bs x) HS.out)
    have e0 : (((0 : Nat) : Int) != 0) = false := rfl
    have e40 := neL hn.1
    have e41 := neL hn.2.1
    have e44 := neL hn.2.2
    clear h hn
    obtain ⟨k, hk0⟩ : ∃ k, nbE s a 0 = k := ⟨_, rfl⟩
    have hkk : nbE s k 0 = k := by rw [← hk0]; exact nb_nb ha
    rw [hk0] at HB hk HS HW
    clear hk0
    obtain ⟨y, hy⟩ : ∃ y, bs y = wd ((bs s).drop k) := ⟨strB _, rfl⟩
    have Hy := Lib.hid hy
    have HP2 : Hid (∀ w, PBx 67 w b s k 0 → Calls Tryz.prog 60 #[.pointer (some ⟨b, 0, none⟩)] w fun en w' => en = .returned (.string y) ∧ PBx 67 w' b s k 0 ∧ Off (fun k => k = b) w w') := fun w h => by
      have := rpeek_any b s k 0 y w h hk hs (by rw [hkk]; exact Hy.out)
      rwa [hkk] at this
    clear hy hkk
    by_cases hq : bs y = bs x
    · have t1 := eqS' hq
      have hle : k + x.size ≤ s.size := by
        have := wd_len hk
        rw [← Hy.out, hq, bs_length] at this
        exact this
      have HF := Lib.hid (HW.out.2 (by rw [← Hy.out, hq]))
      rw [bs_length] at HF
      clear hq
      have t2 : (y.toList != x.toList) = false := by unfold bne; rw [t1]; rfl
      have w1 : IntKind.i64.wrap ((k : Int) + (x.size : Int)) = (k : Int) + (x.size : Int) := IntWalk.i64_in _ (by omega)
      go_enter Tryz.func64, Tryz.ntmps64
      go_wp2_with fail
      refine HB.out.mono ?_
      rintro en w1 ⟨rfl, hp, ho⟩
      have HP := Lib.hid hp; have HO := Lib.hid ho; clear hp ho
      obtain ⟨c0, c1, c2⟩ := HP.out.cells
      go_wp2_with fail
      refine (HP2.out _ HP.out).mono ?_
      rintro en w2 ⟨rfl, hp, ho⟩
      clear c0 c1 c2
      have HPb := Lib.hid hp; have HOb := Lib.hid (HO.out.trans ho); clear hp ho
      obtain ⟨c0, c1, c2⟩ := HPb.out.cells
      have f1 := HPb.out.frozen 1
      go_wp2_with fail
      go_end0
      exact ⟨(), k + x.size, 0, rfl, HPb.out.setA _, HOb.out.trans (Off.set _ _ _ _), HF.out⟩
    · have t1 := neL (a := y) (l := x.toList) (by rw [ByteArray.toList_eq]; exact hq)
      have t2 : (y.toList != x.toList) = true := by unfold bne; rw [t1]; rfl
      have HF := Lib.hid (HW.out.1 (by rw [← Hy.out]; exact hq))
      clear hq
      go_enter Tryz.func64, Tryz.ntmps64
      go_wp2_with fail
      refine HB.out.mono ?_
      rintro en w1 ⟨rfl, hp, ho⟩
      have HP := Lib.hid hp; have HO := Lib.hid ho; clear hp ho
      obtain ⟨c0, c1, c2⟩ := HP.out.cells
      go_wp2_with fail
      refine (HP2.out _ HP.out).mono ?_
      rintro en w2 ⟨rfl, hp, ho⟩
      clear c0 c1 c2
      have HPb := Lib.hid hp; have HOb := Lib.hid (HO.out.trans ho); clear hp ho
      obtain ⟨c0, c1, c2⟩ := HPb.out.cells
      go_wp2_with fail
      refine (rbad_any b s k 0 5 _ HPb.out).mono ?_
      rintro en w3 ⟨rfl, hp, ho⟩
      have HPc := Lib.hid hp; have HOc := Lib.hid (HOb.out.trans ho); clear hp ho
      go_wp2_with fail
      first | go_end0 | refine bodyPost_ret (results_none rfl _ _ _) rfl ?_
      exact ⟨(), k, 5, rfl, HPc.out, HOc.out, HF.out⟩
  · have e0 : ((e : Int) != 0) = true := by simp; omega
    have HT := Lib.hid (PTo.stay (m := fun r => (pWord (bs x) r).bind fun q => .ok ((), q)) (s := s) () ha he)
    have hk0 : nbE s a e = a := if_neg he
    rw [hk0] at HB
    clear h hn he hk0
    go_enter Tryz.func64, Tryz.ntmps64
    go_wp2_with fail
    refine HB.out.mono ?_
    rintro en w1 ⟨rfl, hp, ho⟩
    have HP := Lib.hid hp; have HO := Lib.hid ho; clear hp ho
    obtain ⟨c0, c1, c2⟩ := HP.out.cells
    go_wp2_with fail
    first | go_end0 | refine bodyPost_ret (results_none rfl _ _ _) rfl ?_
    exact ⟨(), a, e, rfl, HP.out, HO.out, HT.out⟩

set_option maxRecDepth 100000 in
set_option maxHeartbeats 3200000 in
/-- a sign has to come -/
theorem rwantS_any (b : Nat) (s : ByteArray) (a e : Nat) (c : UInt8) (w : World) (h : PBx 67 w b s a e) (ha : a ≤ s.size) (hs : s.size ≤ 1000000) (hc : c = 40 ∨ c = 41 ∨ c = 44) :
    Calls Tryz.prog 64 #[.pointer (some ⟨b, 0, none⟩), .string ⟨#[c]⟩] w fun en w' => PEnd 67 (fun r => (pSign c r).bind fun q => .ok ((), q)) (fun _ => .tuple #[]) b s a e w en w' := by
  have HB := Lib.hid (rblanks_any b s a e w h ha hs)
  have hk := nbE_le (e := e) ha
  by_cases he : e = 0
  · subst he
    have HS := Lib.hid (nbE_sk (e := 0) ha)
    have HW := Lib.hid (PTo.sign c HS.out)
    have e0 : (((0 : Nat) : Int) != 0) = false := rfl
    clear h
    obtain ⟨k, hk0⟩ : ∃ k, nbE s a 0 = k := ⟨_, rfl⟩
    rw [hk0] at HB hk HS HW
    clear hk0
    by_cases hlt : k < s.size
    · have hat := Lib.hid (bs_at s k hlt)
      have h1 : Hid (bs (s.extract k (k + 1)) = [s[k]]) := by
        show _ = _
        rw [bs_extract, List.take_add_one, List.drop_append_of_le_length (by rw [List.length_take, bs_length]; omega), hat.out, List.drop_eq_nil_of_le (by rw [List.length_take, bs_length]; omega)]; rfl
      have w1 : IntKind.i64.wrap ((k : Int) + 1) = (k : Int) + 1 := IntWalk.i64_in _ (by omega)
      have l1 : decide (s.size ≤ k) = false := by simp; omega
      have l2 : (k : Int) + 1 ≤ (s.size : Int) := by omega
      have l3 : k + 1 ≤ s.size := by omega
      by_cases hq : s[k] = c
      · have HF := Lib.hid (HW.out.2 (by rw [hat.out, hq]))
        have hX : s.extract k (k + 1) = ⟨#[c]⟩ := bs_eq (by rw [h1.out, hq]; rfl)
        clear hq
        rcases hc with rfl | rfl | rfl
        all_goals
          go_enter Tryz.func64, Tryz.ntmps64
          go_wp2_with fail
          refine HB.out.mono ?_
          rintro en w1 ⟨rfl, hp, ho⟩
          have HP := Lib.hid hp; have HO := Lib.hid ho; clear hp ho
          obtain ⟨c0, c1, c2⟩ := HP.out.cells
          have f1 := HP.out.frozen 1
          go_wp2_with fail
          go_quiet (fail)
          go_wp2_with fail
          go_end0
          exact ⟨(), k + 1, 0, rfl, PBx.setA (show PBx _ (w1.drewN _) b s k 0 from HP.out) _, (HO.out.then (below_drewN (Below.refl _ _) _)).trans (Off.set _ _ _ _), HF.out⟩
      · have HF := Lib.hid (HW.out.1 (by rw [hat.out]; exact fun h => hq (by simpa using h)))
        have t1 := neL (a := s.extract k (k + 1)) (l := [c]) (by rw [h1.out]; exact fun h => hq (by simpa using h))
        have t2 : ((s.extract k (k + 1)).toList != [c]) = true := by unfold bne; rw [t1]; rfl
        clear hq
        rcases hc with rfl | rfl | rfl
        all_goals
          go_enter Tryz.func64, Tryz.ntmps64
          go_wp2_with fail
          refine HB.out.mono ?_
          rintro en w1 ⟨rfl, hp, ho⟩
          have HP := Lib.hid hp; have HO := Lib.hid ho; clear hp ho
          obtain ⟨c0, c1, c2⟩ := HP.out.cells
          go_wp2_with fail
          go_quiet (fail)
          go_wp2_with fail
          refine (rbad_any b s k 0 5 _ (show PBx _ (w1.drewN _) b s k 0 from HP.out)).mono ?_
          rintro en w3 ⟨rfl, hp, ho⟩
          have HPc := Lib.hid hp; have HOc := Lib.hid ((HO.out.then (below_drewN (Below.refl _ _) _)).trans ho); clear hp ho
          go_wp2_with fail
          first | go_end0 | refine bodyPost_ret (results_none rfl _ _ _) rfl ?_
          exact ⟨(), k, 5, rfl, HPc.out, HOc.out, HF.out⟩
    · have HF := Lib.hid (HW.out.1 (by rw [List.getElem?_eq_none (by rw [bs_length]; omega)]; simp))
      have hge : (s.size : Int) ≤ (k : Int) := by omega
      have hge2 : s.size ≤ k := by omega
      have hge3 : decide ((s.size : Int) ≤ (k : Int)) = true := by simpa using hge
      have hge4 : decide (s.size ≤ k) = true := by simpa using hge2
      rcases hc with rfl | rfl | rfl
      all_goals
        go_enter Tryz.func64, Tryz.ntmps64
        go_wp2_with fail
        refine HB.out.mono ?_
        rintro en w1 ⟨rfl, hp, ho⟩
        have HP := Lib.hid hp; have HO := Lib.hid ho; clear hp ho
        obtain ⟨c0, c1, c2⟩ := HP.out.cells
        go_wp2_with fail
        go_quiet (fail)
        go_wp2_with fail
        refine (rbad_any b s k 0 5 _ (show PBx _ (w1.drewN _) b s k 0 from HP.out)).mono ?_
        rintro en w3 ⟨rfl, hp, ho⟩
        have HPc := Lib.hid hp; have HOc := Lib.hid ((HO.out.then (below_drewN (Below.refl _ _) _)).trans ho); clear hp ho
        go_wp2_with fail
        first | go_end0 | refine bodyPost_ret (results_none rfl _ _ _) rfl ?_
        exact ⟨(), k, 5, rfl, HPc.out, HOc.out, HF.out⟩
  · have e0 : ((e : Int) != 0) = true := by simp; omega
    have HT := Lib.hid (PTo.stay (m := fun r => (pSign c r).bind fun q => .ok ((), q)) (s := s) () ha he)
    have hk0 : nbE s a e = a := if_neg he
    rw [hk0] at HB
    clear h he hk0 hc
    go_enter Tryz.func64, Tryz.ntmps64
    go_wp2_with fail
    refine HB.out.mono ?_
    rintro en w1 ⟨rfl, hp, ho⟩
    have HP := Lib.hid hp; have HO := Lib.hid ho; clear hp ho
    obtain ⟨c0, c1, c2⟩ := HP.out.cells
    go_wp2_with fail
    first | go_end0 | refine bodyPost_ret (results_none rfl _ _ _) rfl ?_
    exact ⟨(), a, e, rfl, HP.out, HO.out, HT.out⟩
end Go.Proofs.YtebldfnocpcddaaGreatDoor

/-
  Results that are structs in a block (a type, a value, a column, a change); stores into a block of the call's own.
-/
namespace Go.Proofs.YtebldfnocpcddaaGreatDoor
open Go.RowKit

theorem Off.put {S : Nat → Prop} {w w' : World} (h : Off S w w') (r i : Nat) (v : Value) (hr : w.heap.size ≤ r) : Off S w (w'.setCell ⟨r, i, none⟩ v) :=
  ⟨h.os, h.tape, h.output, by simpa using h.size, fun k hk hn => (heap_setCell_other w' ⟨r, i, none⟩ k v (by simp; omega)).trans (h.block k hk hn)⟩
theorem Off.in {b : Nat} {w w' : World} (h : Off (fun k => k = b) w w') (i : Nat) (v : Value) : Off (fun k => k = b) w (w'.setCell ⟨b, i, none⟩ v) := h.trans (Off.set _ _ _ _)
theorem Off.new {S : Nat → Prop} {w w' : World} (h : Off S w w') (o : Obj) : Off S w (w'.alloc o) := h.then ((Below.refl _ _).alloc (Nat.le_refl _) o)
theorem PBx.put {T : TypeId} {w : World} {b : Nat} {s : ByteArray} {a e : Nat} (h : PBx T w b s a e) (r i : Nat) (v : Value) (hr : r ≠ b) : PBx T (w.setCell ⟨r, i, none⟩ v) b s a e := h.off (Off.set w r i v) (fun e => hr e.symm)
theorem Bk.put {T : TypeId} {w : World} {b : Nat} {cs : List Value} (h : Bk T w b cs) (r i : Nat) (v : Value) (hr : r ≠ b) : Bk T (w.setCell ⟨r, i, none⟩ v) b cs := h.off (Off.set w r i v) (fun e => hr e.symm)
section
variable {fn : Func} {p : Tmp} {w : World} {b : Nat}
set_option maxRecDepth 100000 in
theorem results_kT (h : fn.results = #[.cell p 23]) (tmps : Array Value) {T : TypeId} {x y : Value} (hp : tmps.getD p undef = .pointer (some ⟨b, 0, none⟩)) (hb : Bk T w b [x, y]) :
    (results fn tmps).run Tryz.prog w = .ok (.agg #[x, y]) w := by
  have c0 := hb.at 0 _ rfl
  have c1 := hb.at 1 _ rfl
  have hp' : tmps[p]?.getD undef = .pointer (some ⟨b, 0, none⟩) := by simpa using hp
  simp [results, h, go_sem, hp', c0, c1]
set_option maxRecDepth 100000 in
theorem results_kV (h : fn.results = #[.cell p 25]) (tmps : Array Value) {T : TypeId} {x y z : Value} (hp : tmps.getD p undef = .pointer (some ⟨b, 0, none⟩)) (hb : Bk T w b [x, y, z]) :
    (results fn tmps).run Tryz.prog w = .ok (.agg #[x, y, z]) w := by
  have c0 := hb.at 0 _ rfl
  have c1 := hb.at 1 _ rfl
  have c2 := hb.at 2 _ rfl
  have hp' : tmps[p]?.getD undef = .pointer (some ⟨b, 0, none⟩) := by simpa using hp
  simp [results, h, go_sem, hp', c0, c1, c2]
set_option maxRecDepth 100000 in
theorem results_kC (h : fn.results = #[.cell p 56]) (tmps : Array Value) {T : TypeId} {x0 x1 x2 x3 x4 x5 x6 x7 : Value} (hp : tmps.getD p undef = .pointer (some ⟨b, 0, none⟩)) (hb : Bk T w b [x0, x1, x2, x3, x4, x5, x6, x7]) :
    (results fn tmps).run Tryz.prog w = .ok (.agg #[x0, x1, x2, x3, x4, x5, x6, x7]) w := by
  have c0 := hb.at 0 _ rfl
  have c1 := hb.at 1 _ rfl
  have c2 := hb.at 2 _ rfl
  have c3 := hb.at 3 _ rfl
  have c4 := hb.at 4 _ rfl
  have c5 := hb.at 5 _ rfl
  have c6 := hb.at 6 _ rfl
  have c7 := hb.at 7 _ rfl
  have hp' : tmps[p]?.getD undef = .pointer (some ⟨b, 0, none⟩) := by simpa using hp
  simp [results, h, go_sem, hp', c0, c1, c2, c3, c4, c5, c6, c7]
set_option maxRecDepth 100000 in
set_option maxHeartbeats 800000 in
theorem results_kD (h : fn.results = #[.cell p 28]) (tmps : Array Value) {T : TypeId} {x0 x1 x2 x3 x4 x5 x6 x7 x8 x9 x10 x11 : Value} (hp : tmps.getD p undef = .pointer (some ⟨b, 0, none⟩)) (hb : Bk T w b [x0, x1, x2, x3, x4, x5, x6, x7, x8, x9, x10, x11]) :
    (results fn tmps).run Tryz.prog w = .ok (.agg #[x0, x1, x2, x3, x4, x5, x6, x7, x8, x9, x10, x11]) w := by
  have c0 := hb.at 0 _ rfl
  have c1 := hb.at 1 _ rfl
  have c2 := hb.at 2 _ rfl
  have c3 := hb.at 3 _ rfl
  have c4 := hb.at 4 _ rfl
  have c5 := hb.at 5 _ rfl
  have c6 := hb.at 6 _ rfl
  have c7 := hb.at 7 _ rfl
  have c8 := hb.at 8 _ rfl
  have c9 := hb.at 9 _ rfl
  have c10 := hb.at 10 _ rfl
  have c11 := hb.at 11 _ rfl
  have hp' : tmps[p]?.getD undef = .pointer (some ⟨b, 0, none⟩) := by simpa using hp
  simp [results, h, go_sem, hp', c0, c1, c2, c3, c4, c5, c6, c7, c8, c9, c10, c11]
end
end Go.Proofs.YtebldfnocpcddaaGreatDoor
