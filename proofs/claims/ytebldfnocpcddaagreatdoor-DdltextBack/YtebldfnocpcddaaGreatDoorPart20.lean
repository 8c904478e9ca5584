/-
  Texts that the proof needs, one behind the other: NameUnqC, NameRefUnqC.
-/
import Derived.Test.YtebldfnocpcddaaGreatDoorPart4
import Derived.Test.YtebldfnocpcddaaGreatDoorPart9

/-
  Contracts of package name's guess, readForm, Unquote.
-/
namespace Go.Proofs.YtebldfnocpcddaaGreatDoor
open Go.RowKit

theorem indexHex (c : UInt8) (w : World) : Calls Tryz.prog 149 #[.string ⟨#[48, 49, 50, 51, 52, 53, 54, 55, 56, 57, 97, 98, 99, 100, 101, 102]⟩, .int .u8 (c.toNat : Int)] w fun e w' => e = .returned (.int .i64 (hx c)) ∧ w' = w := by
  have h := Any.strings_IndexByte lay_Lays_n137 ⟨#[48, 49, 50, 51, 52, 53, 54, 55, 56, 57, 97, 98, 99, 100, 101, 102]⟩ (c.toNat : Int) w
  rw [Int.toNat_natCast, show c.toNat.toUInt8 = c by simp] at h
  exact h
theorem hasPrefix_any (s p : ByteArray) (w : World) : Calls Tryz.prog 98 #[.string s, .string p] w fun e w' => e = .returned (.bool ((bs p).isPrefixOf (bs s))) ∧ w = w' :=
  (Any.strings_HasPrefix lay_Lays_n99 s p w).mono fun _ _ ⟨h1, h2⟩ => ⟨h1, h2.symm⟩

/-- how guess ends -/
def GuessV (l : List UInt8) (w : World) (e : Ending) (w' : World) : Prop := ∃ b ok, e = .returned (.tuple #[.int .u8 (b.toNat : Int), .bool ok]) ∧ Guess l b ok ∧ Drew w w'
theorem or16 (X Y : Int) (h1 : 0 ≤ X) (h2 : X ≤ 15) (h3 : 0 ≤ Y) (h4 : Y ≤ 15) : bits BinOp.or IntKind.i64 (X * 16) Y % 256 = ((UInt8.ofNat (16 * X.toNat + Y.toNat)).toNat : Int) := by
  obtain ⟨x, rfl⟩ := Int.eq_ofNat_of_zero_le h1
  obtain ⟨y, rfl⟩ := Int.eq_ofNat_of_zero_le h3
  have h : ∀ x y : Fin 16, bits BinOp.or IntKind.i64 ((x.1 : Int) * 16) (y.1 : Int) % 256 = ((UInt8.ofNat (16 * x.1 + y.1)).toNat : Int) := by decide +kernel
  exact h ⟨x, by omega⟩ ⟨y, by omega⟩
theorem u8ne {c : UInt8} {d : Nat} (hd : d < 256) (h : c.toNat ≠ d) : c ≠ UInt8.ofNat d := fun e => h (by rw [e, UInt8.toNat_ofNat']; exact Nat.mod_eq_of_lt hd)
theorem u8eq {c : UInt8} {d : Nat} (hd : d < 256) (h : c.toNat = d) : c = UInt8.ofNat d := UInt8.toNat_inj.1 (by rw [h, UInt8.toNat_ofNat']; exact (Nat.mod_eq_of_lt hd).symm)
set_option maxRecDepth 100000 in
set_option maxHeartbeats 1600000 in
theorem guess_any (s : ByteArray) (w : World) (h0 : 0 < s.size) (hs : s.size ≤ 1000000) :
    Calls Tryz.prog 153 #[.string s] w fun e w' => GuessV (bs s) w e w' := by
  have A0 := Lib.hid (bs_at s 0 h0)
  by_cases h1 : s[0].toNat = 92
  · have B0 : Hid ((bs s)[0]? = some 92) := by show _ = _; rw [A0.out, u8eq (by omega) h1]; rfl
    have d0 : ((s[0].toNat : Int) != 92) = false := by simp; omega
    by_cases h2 : s.size < 2
    · have HG := Lib.hid (guess1 B0.out (List.getElem?_eq_none (by rw [bs_length]; omega)))
      go_enter Tryz.func153, Tryz.ntmps153
      go_wp2_with fail
      go_ret2
      exact ⟨0, false, rfl, HG.out, Drew.refl _⟩
    · have d1 : decide ((s.size : Int) < 2) = false := by simp; omega
      have hs1 : 1 < s.size := by omega
      have A1 := Lib.hid (bs_at s 1 hs1)
      by_cases h3 : s[1].toNat = 110
      · have HG := Lib.hid (guess2 B0.out (by rw [A1.out, u8eq (by omega) h3]; rfl))
        have d2 : ((s[1].toNat : Int) == 110) = true := by simp; omega
        go_enter Tryz.func153, Tryz.ntmps153
        go_wp2_with fail
        go_ret2
        exact ⟨10, true, rfl, HG.out, Drew.refl _⟩
      · have d2 : ((s[1].toNat : Int) == 110) = false := by simp; omega
        by_cases h4 : s[1].toNat = 120
        · have B1 : Hid ((bs s)[1]? = some 120) := by show _ = _; rw [A1.out, u8eq (by omega) h4]; rfl
          have d3 : ((s[1].toNat : Int) != 120) = false := by simp; omega
          by_cases h5 : s.size < 4
          · have HG := Lib.hid (guess4 B0.out B1.out (List.getElem?_eq_none (by rw [bs_length]; omega)))
            go_enter Tryz.func153, Tryz.ntmps153
            go_wp2_with fail
            go_ret2
            exact ⟨0, false, rfl, HG.out, Drew.refl _⟩
          · have d4 : decide ((s.size : Int) < 4) = false := by simp; omega
            have hs2 : 2 < s.size := by omega
            have hs3 : 3 < s.size := by omega
            have A2 := Lib.hid (bs_at s 2 hs2)
            have A3 := Lib.hid (bs_at s 3 hs3)
            have H2 := Lib.hid (fun w => indexHex s[2] w)
            have H3 := Lib.hid (fun w => indexHex s[3] w)
            have HG5 := Lib.hid (guess5 B0.out B1.out A2.out A3.out)
            have HG6 := Lib.hid (guess6 B0.out B1.out A2.out A3.out)
            have r2 := hx_range s[2]
            have r3 := hx_range s[3]
            go_enter Tryz.func153, Tryz.ntmps153
            clear H2 H3
            go_wp2_with fail
            have i2 : (2 : Int) < (s.size : Int) := by omega
            have i3 : (3 : Int) < (s.size : Int) := by omega
            go_quiet (first | (go_at_call 149; refine Calls.quiet_of_same (indexHex _ _)))
            have hd : Hid (Drew w (w.drewN nq)) := ⟨nq, rfl⟩
            generalize w.drewN nq = wq at hd ⊢
            generalize hx s[2] = X at r2 HG5 HG6 ⊢
            generalize hx s[3] = Y at r3 HG5 HG6 ⊢
            by_cases hX : X < 0
            · have e1 : decide (X < 0) = true := by simp; omega
              have HG := Lib.hid (HG5.out (.inl hX))
              go_wp2_with fail
              go_ret2
              exact ⟨0, false, rfl, HG.out, hd.out⟩
            · have e1 : decide (X < 0) = false := by simp; omega
              by_cases hY : Y < 0
              · have e2 : decide (Y < 0) = true := by simp; omega
                have HG := Lib.hid (HG5.out (.inr hY))
                go_wp2_with fail
                go_ret2
                exact ⟨0, false, rfl, HG.out, hd.out⟩
              · have e2 : decide (Y < 0) = false := by simp; omega
                have Hor := Lib.hid (or16 X Y (by omega) (by omega) (by omega) (by omega))
                go_wp2_with fail
                go_ret2
                exact ⟨_, true, by rw [Hor.out]; rfl, HG6.out, hd.out⟩
        · have HG := Lib.hid (guess3 B0.out A1.out (u8ne (d := 110) (by omega) h3) (u8ne (d := 120) (by omega) h4))
          have d3 : ((s[1].toNat : Int) != 120) = true := by simp; omega
          go_enter Tryz.func153, Tryz.ntmps153
          go_wp2_with fail
          go_ret2
          exact ⟨s[1], true, rfl, HG.out, Drew.refl _⟩
  · have HG := Lib.hid (guess0 A0.out (u8ne (d := 92) (by omega) h1))
    have d0 : ((s[0].toNat : Int) != 92) = true := by simp; omega
    go_enter Tryz.func153, Tryz.ntmps153
    go_wp2_with fail
    go_ret2
    exact ⟨s[0], true, rfl, HG.out, Drew.refl _⟩

theorem pre_iff (p l : List UInt8) : (p.isPrefixOf l = true) ↔ p <+: l := List.isPrefixOf_iff_prefix
theorem pre_no {p l : List UInt8} (h : ¬ p <+: l) : p.isPrefixOf l = false := by
  cases hb : p.isPrefixOf l
  · rfl
  · exact absurd ((pre_iff _ _).1 hb) h

set_option maxRecDepth 100000 in
set_option maxHeartbeats 800000 in
theorem readForm_yes (s : ByteArray) (c : UInt8) (w : World) (hc : frm c <+: bs s) (hs : s.size ≤ 1000000) :
    Calls Tryz.prog 147 #[.string s] w fun e w' => e = .returned (.tuple #[.int .u8 (c.toNat : Int), .int .i64 ((frm c).length : Nat), .bool true]) ∧ Below w.heap.size w w' := by
  have h0 : 0 < s.size := by
    obtain ⟨r, hr⟩ := hc
    have h1 := (frm_len c).2
    have h2 := congrArg List.length hr
    rw [bs_length, List.length_append] at h2; omega
  have Hf := Lib.hid (fun w => form_any c w)
  have hl : (⟨(frm c).toArray⟩ : ByteArray).size = (frm c).length := ba_size _
  have Hp : Hid ((bs ⟨(frm c).toArray⟩).isPrefixOf (bs s) = true) := (pre_iff _ _).2 hc
  generalize (frm c).length = n at hl ⊢
  generalize (⟨(frm c).toArray⟩ : ByteArray) = f at Hf Hp hl
  have Hc := Lib.hid hc; clear hc
  go_enter Tryz.func147, Tryz.ntmps147
  go_wp2_with fail
  refine (guess_any s _ h0 hs).mono ?_
  rintro e w1 ⟨b, ok, rfl, hG, hd1⟩
  obtain ⟨rfl, rfl⟩ := hG c Hc.out
  clear hG
  go_wp2_with fail
  refine (Hf.out _).mono ?_
  rintro e w2 ⟨rfl, hb2⟩
  have HP := Lib.hid (hasPrefix_any s f w2)
  rw [Hp.out] at HP
  go_wp2_with fail
  refine HP.out.mono ?_
  rintro e w3 ⟨rfl, rfl⟩
  go_wp2
  go_ret3
  exact ⟨rfl, (hd1.below _).trans (hb2.mono (by rw [hd1.size]; exact Nat.le_refl _))⟩

set_option maxRecDepth 100000 in
set_option maxHeartbeats 800000 in
theorem readForm_no (s : ByteArray) (w : World) (hc : ∀ c, ¬ frm c <+: bs s) (h0 : 0 < s.size) (hs : s.size ≤ 1000000) :
    Calls Tryz.prog 147 #[.string s] w fun e w' => e = .returned (.tuple #[.int .u8 0, .int .i64 0, .bool false]) ∧ Below w.heap.size w w' := by
  have Hc := Lib.hid hc; clear hc
  go_enter Tryz.func147, Tryz.ntmps147
  go_wp2_with fail
  refine (guess_any s _ h0 hs).mono ?_
  rintro e w1 ⟨b, ok, rfl, hG, hd1⟩
  clear hG
  cases ok
  · go_wp2_with fail
    go_ret3
    exact ⟨rfl, hd1.below _⟩
  · have Hf := Lib.hid (fun w => form_any b w)
    have Hp : Hid ((bs ⟨(frm b).toArray⟩).isPrefixOf (bs s) = false) := pre_no (Hc.out b)
    generalize (⟨(frm b).toArray⟩ : ByteArray) = f at Hf Hp
    go_wp2_with fail
    refine (Hf.out _).mono ?_
    rintro e w2 ⟨rfl, hb2⟩
    have HP := Lib.hid (hasPrefix_any s f w2)
    rw [Hp.out] at HP
    go_wp2_with fail
    refine HP.out.mono ?_
    rintro e w3 ⟨rfl, rfl⟩
    go_wp2
    go_ret3
    exact ⟨rfl, (hd1.below _).trans (hb2.mono (by rw [hd1.size]; exact Nat.le_refl _))⟩

/-- what Unquote hands back -/
noncomputable def uqV (l : List UInt8) : Value := .tuple #[.string ⟨(uq l).1.toArray⟩, .int .i64 ((uq l).2.1 : Nat), .bool (uq l).2.2]
theorem uqV_yes {l t : List UInt8} {n : Nat} (h : uq l = (t, n, true)) : uqV l = .tuple #[.string ⟨t.toArray⟩, .int .i64 (n : Nat), .bool true] := by unfold uqV; rw [h]
theorem uqV_no {l : List UInt8} (h : uq l = ([], 0, false)) : uqV l = .tuple #[.string ⟨#[]⟩, .int .i64 0, .bool false] := by unfold uqV; rw [h]; rfl

set_option maxRecDepth 100000 in
set_option maxHeartbeats 1600000 in
theorem unquote_any (s : ByteArray) (w : World) (hs : s.size ≤ 1000000) :
    Calls Tryz.prog 131 #[.string s] w fun e w' => e = .returned (uqV (bs s)) ∧ Below w.heap.size w w' := by
  by_cases h0 : s.size = 0
  · have Hv := Lib.hid (uqV_no (uq_start (l := bs s) (by rw [List.getElem?_eq_none (by rw [bs_length]; omega)]; simp)))
    obtain rfl := is_empty s h0
    go_enter Tryz.func131, Tryz.ntmps131
    go_wp2_with fail
    go_ret3
    exact ⟨by rw [Hv.out]; rfl, Below.refl _ _⟩
  have hne := ne_empty s (by omega)
  have h0' : 0 < s.size := by omega
  have A0 := Lib.hid (bs_at s 0 h0')
  by_cases h1 : s[0].toNat = 34
  · have d0 : ((s[0].toNat : Int) != 34) = false := by simp; omega
    have B0 : Hid ((bs s)[0]? = some 34) := by show _ = _; rw [A0.out, u8eq (by omega) h1]; rfl
    have HU := Lib.hid (Unq.start B0.out)
    go_enter Tryz.func131, Tryz.ntmps131
    go_wp2_with fail
    go_loopw [5, 6] (fun v i wr => ∃ (p : Nat) (t : List UInt8), 1 ≤ p ∧ p ≤ s.size ∧ i = .int .i64 p ∧ Hid (OwnB wr w.heap.size v t) ∧ Hid (Unq (bs s) t p) ∧ Below w.heap.size w wr) (fun _ i _ => s.size - (intOf i).toNat)
    case atStart => exact ⟨1, [], by omega, by omega, rfl, OwnB.nil _ _, HU.out, Below.refl _ _⟩
    case round =>
      obtain ⟨p, t, hp1, hp, rfl, ho, hu, hb⟩ := hrel
      have hsz := hb.size
      by_cases hlt : p < s.size
      · have Ap := Lib.hid (bs_at s p hlt)
        by_cases h34 : s[p].toNat = 34
        · have d1 : ((s[p].toNat : Int) == 34) = true := by simp; omega
          have Hv := Lib.hid (uqV_yes (hu.out.stop (by rw [Ap.out, u8eq (by omega) h34]; rfl)))
          have hcv := run_string_own ho.out wr (fun _ => rfl)
          go_wp2
          go_ret3
          exact ⟨by rw [Hv.out]; rfl, hb⟩
        · have d1 : ((s[p].toNat : Int) == 34) = false := by simp; omega
          have hx1 : bs (s.extract p s.size) = (bs s).drop p := bs_rest s p
          have hsx : (s.extract p s.size).size = s.size - p := by simp
          by_cases hex : ∃ c, frm c <+: (bs s).drop p
          · obtain ⟨c, hc⟩ := hex
            have Hn := Lib.hid (hu.out.more hc)
            have hl : (frm c).length ≤ s.size - p := by
              have := hc.length_le
              rwa [List.length_drop, bs_length] at this
            have hl0 := (frm_len c).2
            have hl4 := (frm_len c).1
            have ht : t.length < 1099511627776 := by
              have h1 := hu.out.1
              have h2 : ∀ t : List UInt8, t.length ≤ (qb t).length := fun t => by
                induction t with
                | nil => simp
                | cons a r ih => have := (frm_len a).2; rw [qb_cons, List.length_append, List.length_cons]; omega
              have h3 := h2 t
              omega
            have HR := Lib.hid (fun w => readForm_yes (s.extract p s.size) c w (by rw [hx1]; exact hc) (by rw [hsx]; omega))
            generalize (frm c).length = n at HR Hn hl hl0 hl4
            clear hx1 hsx hc
            go_wp2_with fail
            refine (HR.out _).mono ?_
            rintro e w1 ⟨rfl, hb1⟩
            have hs1 := hb1.size
            have ho1 := ho.out.below hb1
            go_wp2_with (at_builtin; refine wpList_append_byte rfl _ _ rfl w.heap.size _ _ c _ ho1 rfl rfl rfl ht (by omega) ?_; intro v' w2 ho2 hb2)
            go_roundw
            case rel => exact ⟨p + n, t ++ [c], by omega, by omega, by go_num, ho2, Hn.out, (hb.trans (hb1.mono hsz)).trans hb2⟩
            case measure => simp [intOf]; omega
          · have Hv := Lib.hid (uqV_no (hu.out.none (fun c hc => hex ⟨c, hc⟩) (by rw [Ap.out]; intro h; exact u8ne (d := 34) (by omega) h34 (Option.some.inj h))))
            have HR := Lib.hid (fun w => readForm_no (s.extract p s.size) w (fun c hc => hex ⟨c, by rw [← hx1]; exact hc⟩) (by rw [hsx]; omega) (by rw [hsx]; omega))
            clear hx1 hsx hex
            go_wp2_with fail
            refine (HR.out _).mono ?_
            rintro e w1 ⟨rfl, hb1⟩
            go_wp2
            go_ret3
            exact ⟨by rw [Hv.out]; rfl, hb.trans (hb1.mono hsz)⟩
      · have Hv := Lib.hid (uqV_no (hu.out.none (fun c hc => by
          rw [List.drop_eq_nil_of_le (by rw [bs_length]; omega)] at hc
          have h1 := (frm_len c).2
          have h2 := hc.length_le
          simp at h2; rw [h2] at h1; simp at h1) (by rw [List.getElem?_eq_none (by rw [bs_length]; omega)]; simp)))
        go_wp2
        go_ret3
        exact ⟨by rw [Hv.out]; rfl, hb⟩
  · have d0 : ((s[0].toNat : Int) != 34) = true := by simp; omega
    have Hv := Lib.hid (uqV_no (uq_start (l := bs s) (by rw [A0.out]; intro h; exact u8ne (d := 34) (by omega) h1 (Option.some.inj h))))
    go_enter Tryz.func131, Tryz.ntmps131
    go_wp2_with fail
    go_ret3
    exact ⟨by rw [Hv.out]; rfl, Below.refl _ _⟩
end Go.Proofs.YtebldfnocpcddaaGreatDoor

/-
  Contracts of the document's own starts and Unquote.
-/
namespace Go.Proofs.YtebldfnocpcddaaGreatDoor
open Go.RowKit

theorem toList_bs (s : ByteArray) : s.toList = bs s := ByteArray.toList_eq s
set_option maxRecDepth 100000 in
set_option maxHeartbeats 800000 in
theorem starts_any (s t : ByteArray) (w : World) :
    Calls Tryz.prog 136 #[.string s, .string t] w fun e w' => e = .returned (.bool ((bs t).isPrefixOf (bs s))) ∧ w = w' := by
  by_cases h : t.size ≤ s.size
  · have d1 : decide ((t.size : Int) ≤ (s.size : Int)) = true := by simp; omega
    have Hv : Hid (((s.extract 0 t.size).toList == t.toList) = (bs t).isPrefixOf (bs s)) := by
      show _ = _
      rw [toList_bs, toList_bs, bs_front, Bool.eq_iff_iff, pre_iff, beq_iff_eq, List.prefix_iff_eq_take, bs_length]
      exact eq_comm
    generalize (bs t).isPrefixOf (bs s) = v at Hv ⊢
    generalize hg : ((s.extract 0 t.size).toList == t.toList) = g at Hv
    go_enter Tryz.func136, Tryz.ntmps136
    go_wp2
    go_ret
    exact ⟨by rw [← Hv.out]; rfl, rfl⟩
  · have d1 : decide ((t.size : Int) ≤ (s.size : Int)) = false := by simp; omega
    have Hv : Hid ((bs t).isPrefixOf (bs s) = false) := pre_no fun hp => by
      have := hp.length_le
      rw [bs_length, bs_length] at this; omega
    go_enter Tryz.func136, Tryz.ntmps136
    go_wp2
    go_ret
    exact ⟨by rw [Hv.out]; rfl, rfl⟩
theorem starts_as (s t : ByteArray) (b : Bool) (w : World) (hb : (bs t).isPrefixOf (bs s) = b) :
    Calls Tryz.prog 136 #[.string s, .string t] w fun e w' => e = .returned (.bool b) ∧ w = w' := by
  have := starts_any s t w
  rwa [hb] at this

/-- the search has come to byte k -/
def Srch (r : List UInt8) (k : Nat) : Prop := ∀ c : UInt8, c.toNat < k → ¬ frm c <+: r

set_option maxRecDepth 100000 in
set_option maxHeartbeats 1600000 in
theorem runquote_any (s : ByteArray) (w : World) (hs : s.size ≤ 1000000) :
    Calls Tryz.prog 108 #[.string s] w fun e w' => e = .returned (uqV (bs s)) ∧ Below w.heap.size w w' := by
  by_cases h0 : s.size = 0
  · have Hv := Lib.hid (uqV_no (uq_start (l := bs s) (by rw [List.getElem?_eq_none (by rw [bs_length]; omega)]; simp)))
    obtain rfl := is_empty s h0
    go_enter Tryz.func108, Tryz.ntmps108
    go_wp2_with fail
    go_ret3
    exact ⟨by rw [Hv.out]; rfl, Below.refl _ _⟩
  have hne := ne_empty s (by omega)
  have h0' : 0 < s.size := by omega
  have A0 := Lib.hid (bs_at s 0 h0')
  by_cases h1 : s[0].toNat = 34
  · have d0 : ((s[0].toNat : Int) != 34) = false := by simp; omega
    have B0 : Hid ((bs s)[0]? = some 34) := by show _ = _; rw [A0.out, u8eq (by omega) h1]; rfl
    have HU := Lib.hid (Unq.start B0.out)
    clear d0 B0
    have d0 : ((s[0].toNat : Int) != 34) = false := by simp; omega
    go_enter Tryz.func108, Tryz.ntmps108
    go_wp2_with fail
    go_loopw [5, 6] (fun v i wr => ∃ (p : Nat) (t : ByteArray), 1 ≤ p ∧ p ≤ s.size ∧ i = .int .i64 p ∧ v = .string t ∧ t.size < p ∧ Hid (Unq (bs s) (bs t) p) ∧ Below w.heap.size w wr) (fun _ i _ => s.size - (intOf i).toNat)
    case atStart => exact ⟨1, ⟨#[]⟩, by omega, by omega, rfl, rfl, by decide, HU.out, Below.refl _ _⟩
    case round =>
      obtain ⟨p, t, hp1, hp, rfl, rfl, htp, hu, hb⟩ := hrel
      have hsz := hb.size
      by_cases hlt : p < s.size
      · have Ap := Lib.hid (bs_at s p hlt)
        by_cases h34 : s[p].toNat = 34
        · have d1 : ((s[p].toNat : Int) != 34) = false := by simp; omega
          have Hv := Lib.hid (uqV_yes (hu.out.stop (by rw [Ap.out, u8eq (by omega) h34]; rfl)))
          go_wp2
          go_ret3
          exact ⟨by rw [Hv.out]; rfl, hb⟩
        · have d1 : ((s[p].toNat : Int) != 34) = true := by simp; omega
          have Hx1 : Hid (bs (s.extract p s.size) = (bs s).drop p) := bs_rest s p
          have hsx : (s.extract p s.size).size = s.size - p := by simp
          go_wp2_with fail
          go_loopw [5, 6, 7, 8] (fun v i f j wr2 => ∃ (k : Nat), k ≤ 256 ∧ j = .int .i64 k ∧ Below w.heap.size w wr2 ∧
            ((f = .bool false ∧ v = .string t ∧ i = .int .i64 p ∧ Hid (Srch ((bs s).drop p) k)) ∨
             (f = .bool true ∧ ∃ (q : Nat) (u : ByteArray), p < q ∧ q ≤ s.size ∧ v = .string u ∧ i = .int .i64 q ∧ u.size < q ∧ Hid (Unq (bs s) (bs u) q)))) (fun _ _ _ j _ => 256 - (intOf j).toNat)
          case atStart => exact ⟨0, by omega, rfl, hb, .inl ⟨rfl, rfl, rfl, fun c hc => absurd hc (by omega)⟩⟩
          case round =>
            obtain ⟨k, hk, rfl, hb2, ⟨rfl, rfl, rfl, hS⟩ | ⟨rfl, q, u, hq1, hq2, rfl, rfl, hu1, hU⟩⟩ := hrel
            · by_cases hk2 : k < 256
              · obtain ⟨c, rfl⟩ : ∃ c : UInt8, k = c.toNat := ⟨UInt8.ofNat k, by rw [UInt8.toNat_ofNat']; omega⟩
                have hsz2 := hb2.size
                have hm : (c.toNat : Int) % 256 = c.toNat := by omega
                have Hone := Lib.hid (fun w => one_any c w)
                have hf : (⟨(frm c).toArray⟩ : ByteArray).size = (frm c).length := ba_size _
                have hf4 := (frm_len c).1
                have hf0 := (frm_len c).2
                have Hfb : Hid (bs ⟨(frm c).toArray⟩ = frm c) := rfl
                generalize (⟨(frm c).toArray⟩ : ByteArray) = f at Hone hf Hfb
                by_cases hpre : frm c <+: (bs s).drop p
                · have Hn := Lib.hid (hu.out.more hpre)
                  have hl : (frm c).length ≤ s.size - p := by
                    have := hpre.length_le
                    rwa [List.length_drop, bs_length] at this
                  have Hst := Lib.hid (fun w => starts_as (s.extract p s.size) f true w (by rw [Hfb.out, Hx1.out]; exact (pre_iff _ _).2 hpre))
                  have Hu2 : Hid (bs (t ++ ⟨#[c]⟩) = bs t ++ [c]) := by show _ = _; rw [bs_append]; rfl
                  have hu2 : (t ++ ⟨#[c]⟩ : ByteArray).size = t.size + 1 := ByteArray.size_append
                  have hcv := fun w' b => run_string_one w' b 1 (c.toNat : Int) c rfl
                  have hadd := fun w' => run_string_add_sum (P := Tryz.prog) (w := w') t ⟨#[c]⟩ (by show t.size + 1 ≤ _; omega)
                  clear hpre
                  generalize (frm c).length = n at hf hf4 hf0 Hn hl
                  go_wp2_with fail
                  refine (Hone.out _).mono ?_
                  rintro e w1 ⟨rfl, hb3⟩
                  go_wp2_with fail
                  refine (Hst.out _).mono ?_
                  rintro e w2 ⟨rfl, rfl⟩
                  go_wp2_with fail
                  go_roundw
                  case rel => exact ⟨c.toNat + 1, by omega, by go_num, (hb2.trans (hb3.mono hsz2)).alloc (by have := hb3.size; omega) _, .inr ⟨rfl, p + n, t ++ ⟨#[c]⟩, by omega, by omega, rfl, by go_num, by rw [hu2]; omega, by show Unq _ _ _; rw [Hu2.out]; exact Hn.out⟩⟩
                  case measure => simp [intOf]; omega
                · have Hst := Lib.hid (fun w => starts_as (s.extract p s.size) f false w (by rw [Hfb.out, Hx1.out]; exact pre_no hpre))
                  have HS2 : Hid (Srch ((bs s).drop p) (c.toNat + 1)) := fun d hd hp => by
                    by_cases hdc : d.toNat = c.toNat
                    · rw [UInt8.toNat_inj.1 hdc] at hp; exact hpre hp
                    · exact hS.out d (by omega) hp
                  clear hpre
                  go_wp2_with fail
                  refine (Hone.out _).mono ?_
                  rintro e w1 ⟨rfl, hb3⟩
                  go_wp2_with fail
                  refine (Hst.out _).mono ?_
                  rintro e w2 ⟨rfl, rfl⟩
                  go_wp2_with fail
                  go_roundw
                  case rel => exact ⟨c.toNat + 1, by omega, by go_num, hb2.trans (hb3.mono hsz2), .inl ⟨rfl, rfl, rfl, HS2.out⟩⟩
                  case measure => simp [intOf]; omega
              · have Hv := Lib.hid (uqV_no (hu.out.none (fun c hc => hS.out c (by have := c.toNat_lt; omega) hc) (by rw [Ap.out]; intro h; exact u8ne (d := 34) (by omega) h34 (Option.some.inj h))))
                go_wp2_with fail
                go_ret3
                exact ⟨by rw [Hv.out]; rfl, hb2⟩
            · by_cases hk2 : k < 256
              · go_wp2_with fail
                go_roundw
                case rel => exact ⟨q, u, by omega, hq2, rfl, rfl, hu1, hU.out, hb2⟩
                case measure => simp [intOf]; omega
              · go_wp2_with fail
                go_roundw
                case rel => exact ⟨q, u, by omega, hq2, rfl, rfl, hu1, hU.out, hb2⟩
                case measure => simp [intOf]; omega
      · have Hv := Lib.hid (uqV_no (hu.out.none (fun c hc => by
          rw [List.drop_eq_nil_of_le (by rw [bs_length]; omega)] at hc
          have h1 := (frm_len c).2
          have h2 := hc.length_le
          simp at h2; rw [h2] at h1; simp at h1) (by rw [List.getElem?_eq_none (by rw [bs_length]; omega)]; simp)))
        go_wp2
        go_ret3
        exact ⟨by rw [Hv.out]; rfl, hb⟩
  · have d0 : ((s[0].toNat : Int) != 34) = true := by simp; omega
    have Hv := Lib.hid (uqV_no (uq_start (l := bs s) (by rw [A0.out]; intro h; exact u8ne (d := 34) (by omega) h1 (Option.some.inj h))))
    go_enter Tryz.func108, Tryz.ntmps108
    go_wp2_with fail
    go_ret3
    exact ⟨by rw [Hv.out]; rfl, Below.refl _ _⟩
end Go.Proofs.YtebldfnocpcddaaGreatDoor
