/-
  Contracts of strings.Cut at a dot, of package name's Path, Split and of the document's own Split.
-/
import Derived.Test.YtfkhldllehdopaaNameOrdC
import Derived.Test.YtfkhldllehdopaaNamePathMath
import Derived.Test.YtfkhldllehdopaaShStr
namespace Go.Proofs.Ytfkhldllehdopaa
open Go.RowKit

theorem index_dot (s : ByteArray) (w : World) : Calls Try.prog 55 #[.string s, .string ⟨#[46]⟩] w fun e w' => e = .returned (.int .i64 (Lib.indexByte (bs s) 46)) ∧ w = w' :=
  (Any.stringslite_Index_one lay_Lays_n219 s 46 w).mono fun _ _ ⟨h1, h2⟩ => ⟨h1, h2.symm⟩

set_option maxRecDepth 100000 in
set_option maxHeartbeats 800000 in
theorem cut_no (s : ByteArray) (w : World) (h : Lib.indexByte (bs s) 46 = -1) : Calls Try.prog 37 #[.string s, .string ⟨#[46]⟩] w fun e w' => e = .returned (.tuple #[.string s, .string ⟨#[]⟩, .bool false]) ∧ Drew w w' := by
  have HI := Lib.hid (index_dot s w)
  rw [h] at HI
  have HC : Hid (Calls Try.prog 42 #[.string s, .string ⟨#[46]⟩] w fun e w' => e = .returned (.tuple #[.string s, .string ⟨#[]⟩, .bool false]) ∧ Drew w w') := by
    show Calls _ _ _ _ _
    go_enter Try.func42, Try.ntmps42
    go_wp2_with (go_at_call 55; refine HI.out.mono ?_; rintro e w1 ⟨rfl, rfl⟩)
    go_ret3
    exact ⟨rfl, Drew.refl _⟩
  go_enter Try.func37, Try.ntmps37
  go_wp2_with (go_at_call 42; refine HC.out.mono ?_; rintro e w1 ⟨rfl, hd⟩)
  go_ret3
  exact ⟨rfl, hd⟩
set_option maxRecDepth 100000 in
set_option maxHeartbeats 800000 in
theorem cut_yes (s : ByteArray) (k : Nat) (w : World) (h : Lib.indexByte (bs s) 46 = k) (hk : k < s.size) (hs : s.size ≤ 1000000) :
    Calls Try.prog 37 #[.string s, .string ⟨#[46]⟩] w fun e w' => e = .returned (.tuple #[.string (s.extract 0 k), .string (s.extract (k + 1) s.size), .bool true]) ∧ Drew w w' := by
  have HI := Lib.hid (index_dot s w)
  rw [h] at HI
  have HC : Hid (Calls Try.prog 42 #[.string s, .string ⟨#[46]⟩] w fun e w' => e = .returned (.tuple #[.string (s.extract 0 k), .string (s.extract (k + 1) s.size), .bool true]) ∧ Drew w w') := by
    show Calls _ _ _ _ _
    have i1 : (k : Int) ≤ (s.size : Int) := by omega
    have i2 : (k : Int) + 1 ≤ (s.size : Int) := by omega
    have i3 : (0 : Int) ≤ (k : Int) := by omega
    go_enter Try.func42, Try.ntmps42
    go_wp2_with (go_at_call 55; refine HI.out.mono ?_; rintro e w1 ⟨rfl, rfl⟩)
    go_quiet (fail)
    go_wp2
    go_ret3
    exact ⟨rfl, ⟨_, rfl⟩⟩
  go_enter Try.func37, Try.ntmps37
  go_wp2_with (go_at_call 42; refine HC.out.mono ?_; rintro e w1 ⟨rfl, hd⟩)
  go_ret3
  exact ⟨rfl, hd⟩

theorem right_as (s : ByteArray) (b : Bool) (w : World) (hs : s.size ≤ 1000000) (hb : rightN (bs s) = b) : Calls Try.prog 9 #[.string s] w fun e w' => e = .returned (.bool b) ∧ w = w' := by
  have := right_any s w hs
  rwa [hb] at this
theorem rright_as (s : ByteArray) (b : Bool) (w : World) (hs : s.size ≤ 1000000) (hb : rightN (bs s) = b) : Calls Try.prog 10 #[.string s] w fun e w' => e = .returned (.bool b) ∧ w = w' := by
  have := rright_any s w hs
  rwa [hb] at this

set_option maxRecDepth 100000 in
set_option maxHeartbeats 800000 in
theorem path_yes (a b : ByteArray) (w : World) (ha : a.size ≤ 1000000) (hb : b.size ≤ 1000000) (h1 : rightN (bs a) = true) (h2 : rightN (bs b) = true) :
    Calls Try.prog 22 #[.string a, .string b] w fun e w' => e = .returned (.tuple #[.string (a ++ ⟨#[46]⟩ ++ b), .bool true]) ∧ w = w' := by
  have HA := Lib.hid (right_as a true w ha h1)
  have HB := Lib.hid (right_as b true w hb h2)
  have hz : (a ++ ⟨#[46]⟩ : ByteArray).size = a.size + 1 := ByteArray.size_append
  have hadd := fun w' => run_string_add_sum (P := Try.prog) (w := w') a ⟨#[46]⟩ (by show a.size + 1 ≤ _; omega)
  have hadd2 := fun w' => run_string_add_sum (P := Try.prog) (w := w') (a ++ ⟨#[46]⟩) b (by rw [hz]; omega)
  clear h1 h2
  go_enter Try.func22, Try.ntmps22
  go_wp2_with fail
  refine HA.out.mono ?_
  rintro e w1 ⟨rfl, rfl⟩
  go_wp2_with fail
  refine HB.out.mono ?_
  rintro e w1 ⟨rfl, rfl⟩
  go_wp2
  go_ret2
  exact ⟨rfl, rfl⟩
set_option maxRecDepth 100000 in
set_option maxHeartbeats 800000 in
theorem path_no (a b : ByteArray) (w : World) (ha : a.size ≤ 1000000) (hb : b.size ≤ 1000000) (h : rightN (bs a) = false ∨ rightN (bs b) = false) :
    Calls Try.prog 22 #[.string a, .string b] w fun e w' => e = .returned (.tuple #[.string ⟨#[]⟩, .bool false]) ∧ w = w' := by
  cases h1 : rightN (bs a)
  · have HA := Lib.hid (right_as a false w ha h1)
    clear h1 h
    go_enter Try.func22, Try.ntmps22
    go_wp2_with fail
    refine HA.out.mono ?_
    rintro e w1 ⟨rfl, rfl⟩
    go_wp2
    go_ret2
    exact ⟨rfl, rfl⟩
  · have h2 : rightN (bs b) = false := by
      rcases h with h | h
      · rw [h1] at h; cases h
      · exact h
    have HA := Lib.hid (right_as a true w ha h1)
    have HB := Lib.hid (right_as b false w hb h2)
    clear h1 h2 h
    go_enter Try.func22, Try.ntmps22
    go_wp2_with fail
    refine HA.out.mono ?_
    rintro e w1 ⟨rfl, rfl⟩
    go_wp2_with fail
    refine HB.out.mono ?_
    rintro e w1 ⟨rfl, rfl⟩
    go_wp2
    go_ret2
    exact ⟨rfl, rfl⟩

/-- what Split hands back -/
noncomputable def spV (l : List UInt8) : Value := .tuple #[.string ⟨(sp l).1.toArray⟩, .string ⟨(sp l).2.1.toArray⟩, .bool (sp l).2.2]
theorem spV_yes {l : List UInt8} {a b : ByteArray} (h : sp l = (bs a, bs b, true)) : spV l = .tuple #[.string a, .string b, .bool true] := by
  unfold spV; rw [h]; rfl
theorem spV_no {l : List UInt8} (h : sp l = ([], [], false)) : spV l = .tuple #[.string ⟨#[]⟩, .string ⟨#[]⟩, .bool false] := by unfold spV; rw [h]

set_option maxRecDepth 100000 in
set_option maxHeartbeats 1600000 in
theorem split_any (s : ByteArray) (w : World) (hs : s.size ≤ 1000000) : Calls Try.prog 23 #[.string s] w fun e w' => e = .returned (spV (bs s)) ∧ Drew w w' := by
  rcases idx_split (bs s) 46 with ⟨h1, h2⟩ | ⟨a, b, h1, h2, h3⟩
  · have Hv := Lib.hid (spV_no (sp_none h2))
    have HC := Lib.hid (cut_no s w h1)
    clear h1 h2
    go_enter Try.func23, Try.ntmps23
    go_wp2_with (go_at_call 37; refine HC.out.mono ?_; rintro e w1 ⟨rfl, hd⟩)
    go_ret3
    exact ⟨by rw [Hv.out]; rfl, hd⟩
  · have hl : a.length + (b.length + 1) = s.size := by rw [← bs_length, h1, List.length_append, List.length_cons]
    have HC := Lib.hid (cut_yes s a.length w h3 (by omega) hs)
    have ea : bs (s.extract 0 a.length) = a := by rw [bs_front, h1]; simp
    have eb : bs (s.extract (a.length + 1) s.size) = b := by
      rw [bs_rest, h1, List.drop_append]; simp
    have sa : (s.extract 0 a.length).size = a.length := by rw [← bs_length, ea]
    have sb : (s.extract (a.length + 1) s.size).size = b.length := by rw [← bs_length, eb]
    generalize s.extract 0 a.length = A at HC ea sa
    generalize s.extract (a.length + 1) s.size = B at HC eb sb
    subst ea eb
    cases hA : rightN (bs A)
    · have Hv := Lib.hid (spV_no (sp_bad h1 h2 (.inl hA)))
      have HA := Lib.hid (fun w => right_as A false w (by omega) hA)
      clear h1 h2 h3 hA
      go_enter Try.func23, Try.ntmps23
      go_wp2_with fail
      refine HC.out.mono ?_
      rintro e w1 ⟨rfl, hd⟩
      go_wp2_with fail
      refine (HA.out _).mono ?_
      rintro e w2 ⟨rfl, rfl⟩
      go_wp2
      go_ret3
      exact ⟨by rw [Hv.out]; rfl, hd⟩
    · have HA := Lib.hid (fun w => right_as A true w (by omega) hA)
      cases hB : rightN (bs B)
      · have Hv := Lib.hid (spV_no (sp_bad h1 h2 (.inr hB)))
        have HB := Lib.hid (fun w => right_as B false w (by omega) hB)
        clear h1 h2 h3 hA hB
        go_enter Try.func23, Try.ntmps23
        go_wp2_with fail
        refine HC.out.mono ?_
        rintro e w1 ⟨rfl, hd⟩
        go_wp2_with fail
        refine (HA.out _).mono ?_
        rintro e w2 ⟨rfl, rfl⟩
        go_wp2_with fail
        refine (HB.out _).mono ?_
        rintro e w2 ⟨rfl, rfl⟩
        go_wp2
        go_ret3
        exact ⟨by rw [Hv.out]; rfl, hd⟩
      · have Hv := Lib.hid (spV_yes (sp_yes h1 hA hB))
        have HB := Lib.hid (fun w => right_as B true w (by omega) hB)
        clear h1 h2 h3 hA hB
        go_enter Try.func23, Try.ntmps23
        go_wp2_with fail
        refine HC.out.mono ?_
        rintro e w1 ⟨rfl, hd⟩
        go_wp2_with fail
        refine (HA.out _).mono ?_
        rintro e w2 ⟨rfl, rfl⟩
        go_wp2_with fail
        refine (HB.out _).mono ?_
        rintro e w2 ⟨rfl, rfl⟩
        go_wp2
        go_ret3
        exact ⟨by rw [Hv.out]; rfl, hd⟩

theorem u8not {c : UInt8} {d : Nat} (hd : d < 256) (h : c.toNat ≠ d) : c ≠ UInt8.ofNat d := fun e => h (by rw [e, UInt8.toNat_ofNat']; exact Nat.mod_eq_of_lt hd)
theorem u8is {c : UInt8} {d : Nat} (hd : d < 256) (h : c.toNat = d) : c = UInt8.ofNat d := UInt8.toNat_inj.1 (by rw [h, UInt8.toNat_ofNat']; exact (Nat.mod_eq_of_lt hd).symm)
set_option maxRecDepth 100000 in
set_option maxHeartbeats 1600000 in
theorem rsplit_any (s : ByteArray) (w : World) (hs : s.size ≤ 1000000) : Calls Try.prog 24 #[.string s] w fun e w' => e = .returned (spV (bs s)) ∧ Drew w w' := by
  go_enter Try.func24, Try.ntmps24
  go_wp2_with fail
  go_loop [5] (fun i => ∃ k : Nat, k ≤ s.size ∧ i = .int .i64 k ∧ Hid (Nop (bs s) k)) (fun i => s.size - (intOf i).toNat)
  case atStart => exact ⟨0, by omega, rfl, fun j hj => absurd hj (by omega)⟩
  case round =>
    obtain ⟨k, hk, rfl, hno⟩ := hrel
    by_cases hlt : k < s.size
    · have Hat := Lib.hid (bs_at s k hlt)
      by_cases h46 : s[k].toNat = 46
      · have d1 : ((s[k].toNat : Int) == 46) = true := by simp; omega
        have B0 : Hid ((bs s)[k]? = some 46) := by show _ = _; rw [Hat.out, u8is (by omega) h46]; rfl
        have Hea : Hid (bs (s.extract 0 k) = (bs s).take k) := bs_front s k
        have Heb : Hid (bs (s.extract (k + 1) s.size) = (bs s).drop (k + 1)) := bs_rest s (k + 1)
        have i1 : (k : Int) ≤ (s.size : Int) := by omega
        have i2 : (k : Int) + 1 ≤ (s.size : Int) := by omega
        cases hA : rightN ((bs s).take k)
        · have HA := Lib.hid (fun w => rright_as (s.extract 0 k) false w (by simp; omega) (by rw [Hea.out]; exact hA))
          have Hm := Lib.hid (hno.out.more (k := k) (fun h => by rw [hA] at h; cases h.2.1))
          clear hA
          go_wp2_with fail
          refine (HA.out _).mono ?_
          rintro e w2 ⟨rfl, rfl⟩
          go_wp2_with fail
          go_round
          case rel => exact ⟨k + 1, by omega, by go_num, Hm.out⟩
          case measure => simp [intOf]; omega
        · have HA := Lib.hid (fun w => rright_as (s.extract 0 k) true w (by simp; omega) (by rw [Hea.out]; exact hA))
          cases hB : rightN ((bs s).drop (k + 1))
          · have HB := Lib.hid (fun w => rright_as (s.extract (k + 1) s.size) false w (by simp; omega) (by rw [Heb.out]; exact hB))
            have Hm := Lib.hid (hno.out.more (k := k) (fun h => by rw [hB] at h; cases h.2.2))
            clear hA hB
            go_wp2_with fail
            refine (HA.out _).mono ?_
            rintro e w2 ⟨rfl, rfl⟩
            go_wp2_with fail
            refine (HB.out _).mono ?_
            rintro e w2 ⟨rfl, rfl⟩
            go_wp2_with fail
            go_round
            case rel => exact ⟨k + 1, by omega, by go_num, Hm.out⟩
            case measure => simp [intOf]; omega
          · have HB := Lib.hid (fun w => rright_as (s.extract (k + 1) s.size) true w (by simp; omega) (by rw [Heb.out]; exact hB))
            have Hv : Hid (spV (bs s) = .tuple #[.string (s.extract 0 k), .string (s.extract (k + 1) s.size), .bool true]) := spV_yes (by rw [Hea.out, Heb.out]; exact sp_yes (split_at B0.out) hA hB)
            clear hA hB
            go_wp2_with fail
            refine (HA.out _).mono ?_
            rintro e w2 ⟨rfl, rfl⟩
            go_wp2_with fail
            refine (HB.out _).mono ?_
            rintro e w2 ⟨rfl, rfl⟩
            go_wp2_with fail
            go_quiet (fail)
            go_wp2
            go_ret3
            exact ⟨by rw [Hv.out]; rfl, ⟨_, rfl⟩⟩
      · have d1 : ((s[k].toNat : Int) == 46) = false := by simp; omega
        have Hm := Lib.hid (hno.out.more (k := k) (fun h => by
          have h1 := h.1
          rw [Hat.out] at h1
          exact u8not (d := 46) (by omega) h46 (Option.some.inj h1)))
        go_wp2_with fail
        go_round
        case rel => exact ⟨k + 1, by omega, by go_num, Hm.out⟩
        case measure => simp [intOf]; omega
    · have Hv : Hid (spV (bs s) = .tuple #[.string ⟨#[]⟩, .string ⟨#[]⟩, .bool false]) := spV_no (Nop.all (by rw [bs_length, show s.size = k by omega]; exact hno.out))
      go_wp2
      go_ret3
      exact ⟨by rw [Hv.out]; rfl, Drew.refl _⟩
end Go.Proofs.Ytfkhldllehdopaa
