/-
  Contracts of the document's own Signs, Right, Text, Cut, Same.
-/
import Derived.Test.YtmfaeahpcoonaaaDoorUtfRefReadC
import Derived.Test.YtmfaeahpcoonaaaDoorInts
namespace Go.Proofs.YtmfaeahpcoonaaaDoor
open Go.RowKit

theorem rread_yes (s : ByteArray) (n k : Nat) (w : World) (hs : s.size ≤ 9223372036854775807) (h : rd (bs s) = some (n, k)) :
    Calls Tryd.prog 13 #[.string s] w fun e w' => e = .returned (.tuple #[.int .i64 n, .int .i64 k, .bool true]) ∧ Below w.heap.size w w' := by
  have := rread_any s w hs
  rw [rdV_some h] at this
  exact this
theorem rread_no (s : ByteArray) (w : World) (hs : s.size ≤ 9223372036854775807) (h : rd (bs s) = none) :
    Calls Tryd.prog 13 #[.string s] w fun e w' => e = .returned (.tuple #[.int .i64 0, .int .i64 0, .bool false]) ∧ Below w.heap.size w w' := by
  have := rread_any s w hs
  rw [rdV_none h] at this
  exact this

def strSize : Value → Nat
  | .string s => s.size
  | _ => 0
/-- numbers as ints -/
def toI (ns : List Nat) : List Int := ns.map fun n : Nat => (n : Int)
theorem toI_snoc (ns : List Nat) (n : Nat) : toI (ns ++ [n]) = toI ns ++ [(n : Int)] := by simp [toI]
theorem toI_length (ns : List Nat) : (toI ns).length = ns.length := by simp [toI]
theorem ne_empty (r : ByteArray) (h : 0 < r.size) : (r.toList == []) = false := by
  rw [ByteArray.toList_eq]
  have h1 := bs_length r
  show (bs r == []) = false
  cases hb : bs r with
  | nil => rw [hb] at h1; simp at h1; omega
  | cons a t => rfl
theorem is_empty (r : ByteArray) (h : r.size = 0) : r = ⟨#[]⟩ := bs_eq (List.eq_nil_of_length_eq_zero (by rw [bs_length]; exact h))
theorem bs_rest (r : ByteArray) (k : Nat) : bs (r.extract k r.size) = (bs r).drop k := by
  rw [bs_extract, List.take_of_length_le (by rw [bs_length]; omega)]
theorem bs_front (r : ByteArray) (k : Nat) : bs (r.extract 0 k) = (bs r).take k := by
  rw [bs_extract, List.drop_zero]

/-- what Signs hands back -/
def signsV (l : List UInt8) (w' : World) (base : Nat) (v : Value) (b : Bool) : Prop :=
  (∃ ns, sg l = some ns ∧ OwnI w' base v (toI ns) ∧ b = true) ∨ (sg l = none ∧ v = .slice none 0 0 ∧ b = false)

set_option maxRecDepth 100000 in
set_option maxHeartbeats 800000 in
theorem rsigns_any (s : ByteArray) (w : World) (hs : s.size ≤ 1000000) :
    Calls Tryd.prog 14 #[.string s] w fun e w' => ∃ v b, e = .returned (.tuple #[v, .bool b]) ∧ signsV (bs s) w' w.heap.size v b ∧ Below w.heap.size w w' := by
  go_enter Tryd.func14, Tryd.ntmps14
  go_wp2_with fail
  go_loopw [0, 4] (fun x v wr => ∃ (r : ByteArray) (p : Nat) (ns : List Nat), x = .string r ∧ Hid (bs r = (bs s).drop p) ∧ r.size + p = s.size ∧ Hid (Got (bs s) ns p) ∧ OwnI wr w.heap.size v (toI ns) ∧ Below w.heap.size w wr) (fun x _ _ => strSize x)
  case atStart => exact ⟨s, 0, [], rfl, by show _ = _; rw [List.drop_zero], by omega, Got.zero _, OwnI.nil _ _, Below.refl _ _⟩
  case round =>
    obtain ⟨r, p, ns, rfl, hr, hp, hg, ho, hb⟩ := hrel
    have HO := Lib.hid ho; clear ho
    have hsz := hb.size
    by_cases h0 : r.size = 0
    · have hg2 := hg.out
      rw [show p = (bs s).length by rw [bs_length]; omega] at hg2
      obtain rfl := is_empty r h0
      have Hd := Lib.hid hg2.done
      clear hg2
      go_wp2_with fail
      go_ret2
      exact ⟨_, _, rfl, .inl ⟨ns, Hd.out, HO.out, rfl⟩, hb⟩
    · have hne := ne_empty r (by omega)
      cases hrd : rd (bs r) with
      | none =>
        have Hno : Hid (sg (bs s) = none) := hg.out.stop (by rw [bs_length]; omega) (by rw [← hr.out]; exact hrd)
        have Hrd := Lib.hid hrd; clear hrd
        go_wp2_with (go_at_call 13; refine (rread_no r _ (by omega) Hrd.out).mono ?_; rintro e w1 ⟨rfl, hb1⟩)
        go_ret2
        exact ⟨_, _, rfl, .inr ⟨Hno.out, rfl, rfl⟩, hb.trans (hb1.mono hsz)⟩
      | some q =>
        obtain ⟨n, k⟩ := q
        have hpos := rd_pos hrd
        rw [bs_length] at hpos
        have Hg2 := Lib.hid (hg.out.more (by rw [← hr.out]; exact hrd))
        have Hr2 : Hid (bs (r.extract k r.size) = (bs s).drop (p + k)) := by
          show _ = _
          rw [bs_rest, hr.out, List.drop_drop]
        have hlen := hg.out.len
        have Hrd := Lib.hid hrd; clear hrd
        go_wp2_with fail
        refine (rread_yes r n k _ (by omega) Hrd.out).mono ?_
        rintro e w1 ⟨rfl, hb1⟩
        have hs1 := hb1.size
        have ho1 := HO.out.below hb1
        go_wp2_with (at_builtin; refine wpList_append_int rfl _ _ rfl w.heap.size _ (toI ns) n ho1 rfl rfl (by rw [toI_length]; omega) (by omega) ?_; intro v' w2 ho2 _ hb2)
        go_roundw
        case rel => exact ⟨r.extract k r.size, p + k, ns ++ [n], by simp, Hr2, by simp; omega, Hg2, by rw [toI_snoc]; exact ho2, (hb.trans (hb1.mono hsz)).trans hb2⟩
        case measure => simp [strSize]; omega

set_option maxRecDepth 100000 in
set_option maxHeartbeats 400000 in
theorem rright_any (s : ByteArray) (w : World) (hs : s.size ≤ 1000000) :
    Calls Tryd.prog 31 #[.string s] w fun e w' => e = .returned (.bool (sg (bs s)).isSome) ∧ Below w.heap.size w w' := by
  go_enter Tryd.func31, Tryd.ntmps31
  go_wp2_with fail
  refine (rsigns_any s _ hs).mono ?_
  rintro e w1 ⟨v, b, rfl, hv, hb1⟩
  have Hv : Hid (b = (sg (bs s)).isSome) := by
    show _ = _
    rcases hv with ⟨ns, h1, _, h3⟩ | ⟨h1, _, h3⟩
    · rw [h1, h3]; rfl
    · rw [h1, h3]; rfl
  clear hv
  go_wp2
  go_ret
  exact ⟨by rw [Hv.out]; rfl, hb1⟩

/-- the bytes of ints, if each is a code point -/
def txt (zs : List Int) : List UInt8 := text (zs.map Int.toNat)
theorem txt_snoc (zs : List Int) (n : Nat) : txt (zs ++ [(n : Int)]) = txt zs ++ enc n := by
  unfold txt; rw [List.map_append, text_append]; simp [text]
theorem txt_length (zs : List Int) : (txt zs).length ≤ 4 * zs.length := by
  have := text_length_le (zs.map Int.toNat)
  simpa [txt] using this
/-- what Text hands back -/
def txtV (zs : List Int) : List UInt8 × Bool := if zs.all isP then (txt zs, true) else ([], false)
theorem txtV_bad {zs : List Int} {k : Nat} (hk : k < zs.length) (h : isP zs[k] = false) : txtV zs = ([], false) := by
  unfold txtV
  rw [if_neg]
  intro h2
  rw [List.all_eq_true] at h2
  rw [h2 _ (List.getElem_mem hk)] at h; cases h
theorem txtV_good {zs : List Int} (h : (zs.take zs.length).all isP = true) : txtV zs = (txt zs, true) := by
  unfold txtV
  rw [List.take_length] at h
  rw [if_pos h]
theorem all_take {zs : List Int} {k : Nat} (hk : k < zs.length) (h : (zs.take k).all isP = true) (h2 : isP zs[k] = true) : (zs.take (k + 1)).all isP = true := by
  rw [List.take_succ_eq_append_getElem hk, List.all_append, h]; simp [h2]
theorem isP_nat {z : Int} (h : isP z = true) : ∃ n : Nat, z = n ∧ isP n = true ∧ n ≤ 1114111 := by
  have h' := (isP_iff z).1 h
  obtain ⟨n, rfl⟩ := Int.eq_ofNat_of_zero_le h'.1
  exact ⟨n, rfl, h, by omega⟩

set_option maxRecDepth 100000 in
set_option maxHeartbeats 800000 in
theorem rtext_any (A : Option Addr) (c : Nat) (zs : List Int) (w : World) (hA : IntsAt w w.heap.size A zs) (hl : zs.length ≤ 1000000) :
    Calls Tryd.prog 16 #[.slice A zs.length c] w fun e w' => e = .returned (.tuple #[.string ⟨(txtV zs).1.toArray⟩, .bool (txtV zs).2]) ∧ Below w.heap.size w w' := by
  have HA := Lib.hid hA; clear hA
  go_enter Tryd.func16, Tryd.ntmps16
  go_wp2_with fail
  go_loopw [4, 5] (fun u i wr => ∃ (k : Nat) (t : ByteArray), k ≤ zs.length ∧ i = .int .i64 k ∧ u = .string t ∧ Hid (bs t = txt (zs.take k)) ∧ Hid ((zs.take k).all isP = true) ∧ Below w.heap.size w wr) (fun _ i _ => zs.length - (intOf i).toNat)
  case atStart => exact ⟨0, ⟨#[]⟩, by omega, rfl, rfl, rfl, rfl, Below.refl _ _⟩
  case round =>
    obtain ⟨k, t, hk, rfl, rfl, ht, hall, hb⟩ := hrel
    by_cases hlt : k < zs.length
    · obtain ⟨b, off, rfl, hbB, hc⟩ := HA.out (by omega)
      have hcell : wr.cell? ⟨b, off + k, none⟩ = some (.int .i64 zs[k]) := (hb.cell (by exact hbB)).trans (hc k hlt)
      have Hc := Lib.hid hc; clear hc
      have hsz := hb.size
      cases hP : isP zs[k] with
      | false =>
        have Hx := Lib.hid (txtV_bad hlt hP)
        go_wp2_with (go_at_call 10; refine (ris_no _ hP _).mono ?_; rintro e w1 ⟨rfl, rfl⟩)
        go_ret2
        exact ⟨by rw [Hx.out]; rfl, hb⟩
      | true =>
        obtain ⟨n, hz, hPn, hn⟩ := isP_nat hP
        have HtS : Hid (bs t ++ enc n = txt (zs.take (k + 1))) := by
          show _ = _
          rw [List.take_succ_eq_append_getElem hlt, hz, txt_snoc, ht.out]
        have Hall : Hid ((zs.take (k + 1)).all isP = true) := all_take hlt hall.out hP
        have htl : t.size ≤ 4000000 := by
          have := txt_length (zs.take k)
          rw [← ht.out, bs_length, List.length_take] at this; omega
        have hel := enc_length n
        have hel2 := esz_le n
        have hadd := fun w' => run_string_add_sum (P := Tryd.prog) (w := w') t ⟨(enc n).toArray⟩ (by rw [ba_size (enc n)]; omega)
        rw [hz] at hcell
        have Hz := Lib.hid hz; clear hz hP
        go_wp2_with fail
        refine (ris_any _ _).mono ?_
        rintro e w1 ⟨rfl, rfl⟩
        go_wp2_with fail
        refine (rput_any n _ hn).mono ?_
        rintro e w1 ⟨rfl, hb1⟩
        go_wp2
        go_roundw
        case rel => exact ⟨k + 1, _, by omega, by go_num, rfl, by show _ = _; rw [bs_append, bs_mk]; exact HtS.out, Hall, hb.trans (hb1.mono hsz)⟩
        case measure => simp [intOf]; omega
    · obtain rfl : k = zs.length := by omega
      have Hx := Lib.hid (txtV_good hall.out)
      have Ht2 := ht.out
      rw [List.take_length] at Ht2
      have Ht3 : Hid (t = ⟨(txt zs).toArray⟩) := bs_eq Ht2
      clear Ht2
      go_wp2
      go_ret2
      exact ⟨by rw [Hx.out, Ht3.out]; rfl, hb⟩

theorem cut_ex (l : List UInt8) (most : Int) : ∀ p : Nat, ∃ c, CutAt l most p c
  | 0 => ⟨0, CutAt.zero _ _⟩
  | p + 1 => by
    obtain ⟨c, h1, h2, h3⟩ := cut_ex l most p
    by_cases hq : ((p + 1 : Nat) : Int) ≤ most ∧ (sg (l.take (p + 1))).isSome = true
    · exact ⟨p + 1, by omega, .inr hq, fun j h4 h5 => by omega⟩
    · refine ⟨c, by omega, h2, fun j h4 h5 h6 => ?_⟩
      by_cases hj : j ≤ p
      · exact h3 j h4 hj h6
      · obtain rfl : j = p + 1 := by omega
        cases hs : sg (l.take (p + 1)) with
        | none => rfl
        | some x => exact absurd ⟨h6, by rw [hs]; rfl⟩ hq

set_option maxRecDepth 100000 in
set_option maxHeartbeats 800000 in
theorem rcut_no (s : ByteArray) (most : Int) (w : World) (hs : s.size ≤ 1000000) (h : sg (bs s) = none) :
    Calls Tryd.prog 22 #[.string s, .int .i64 most] w fun e w' => e = .returned (.string ⟨#[]⟩) ∧ Below w.heap.size w w' := by
  have hr : (sg (bs s)).isSome = false := by rw [h]; rfl
  go_enter Tryd.func22, Tryd.ntmps22
  go_wp2_with fail
  refine (rright_any s _ hs).mono ?_
  rintro e w1 ⟨rfl, hb1⟩
  rw [hr]
  go_wp2
  go_ret
  exact ⟨rfl, hb1⟩

set_option maxRecDepth 100000 in
set_option maxHeartbeats 800000 in
theorem rcut_yes (s : ByteArray) (most : Int) (c : Nat) (w : World) (hs : s.size ≤ 1000000) (h : (sg (bs s)).isSome = true) (hc : CutAt (bs s) most s.size c) :
    Calls Tryd.prog 22 #[.string s, .int .i64 most] w fun e w' => e = .returned (.string (s.extract 0 c)) ∧ Below w.heap.size w w' := by
  have HC := Lib.hid hc; clear hc
  go_enter Tryd.func22, Tryd.ntmps22
  go_wp2_with fail
  refine (rright_any s _ hs).mono ?_
  rintro e w1 ⟨rfl, hb1⟩
  rw [h]
  go_wp2_with fail
  go_loopw [5] (fun i wr => ∃ n : Nat, n ≤ s.size ∧ c ≤ n ∧ i = .int .i64 n ∧ Below w.heap.size w wr) (fun i _ => (intOf i).toNat)
  case atStart => exact ⟨s.size, by omega, HC.out.1, rfl, hb1⟩
  case round =>
    obtain ⟨n, hn, hcn, rfl, hb⟩ := hrel
    have hsz := hb.size
    by_cases h0 : n = 0
    · subst h0
      obtain rfl : c = 0 := by omega
      have He : Hid (s.extract 0 0 = ⟨#[]⟩) := bs_eq (by rw [bs_front]; rfl)
      go_wp2_with fail
      go_ret
      exact ⟨by rw [He.out]; rfl, hb⟩
    · by_cases hm : (n : Int) ≤ most
      · have hsl : (s.extract 0 n).size ≤ 1000000 := by simp; omega
        have hd : decide ((n : Int) ≤ most) = true := by simpa using hm
        have Hbf := Lib.hid (bs_front s n)
        cases hr : sg ((bs s).take n) with
        | none =>
          have hne : c ≠ n := fun e => by
            rcases HC.out.2.1 with h1 | ⟨_, h2⟩
            · omega
            · rw [e, hr] at h2; cases h2
          have Hr : Hid ((sg (bs (s.extract 0 n))).isSome = false) := by show _ = _; rw [Hbf.out, hr]; rfl
          clear hr
          go_wp2_with fail
          refine (rright_any (s.extract 0 n) _ hsl).mono ?_
          rintro e w2 ⟨rfl, hb2⟩
          rw [Hr.out]
          go_wp2_with fail
          go_roundw
          case rel => exact ⟨n - 1, by omega, by omega, by go_num, hb.trans (hb2.mono hsz)⟩
          case measure => simp [intOf]; omega
        | some ns =>
          have hce : c = n := by
            rcases Nat.lt_or_ge c n with h1 | h1
            · have := HC.out.2.2 n h1 hn hm
              rw [hr] at this; cases this
            · omega
          subst hce
          have Hr : Hid ((sg (bs (s.extract 0 c))).isSome = true) := by show _ = _; rw [Hbf.out, hr]; rfl
          clear hr
          go_wp2_with fail
          refine (rright_any (s.extract 0 c) _ hsl).mono ?_
          rintro e w2 ⟨rfl, hb2⟩
          rw [Hr.out]
          go_wp2_with fail
          go_ret
          exact ⟨rfl, hb.trans (hb2.mono hsz)⟩
      · have hd : decide ((n : Int) ≤ most) = false := by simpa using hm
        have hne : c ≠ n := fun e => by
          rcases HC.out.2.1 with h1 | ⟨h1, _⟩
          · omega
          · rw [e] at h1; exact hm h1
        go_wp2_with fail
        go_roundw
        case rel => exact ⟨n - 1, by omega, by omega, by go_num, hb⟩
        case measure => simp [intOf]; omega

set_option maxRecDepth 100000 in
set_option maxHeartbeats 800000 in
theorem same_any (A B : Option Addr) (c d : Nat) (zs : List Int) (w : World) (hA : IntsAt w w.heap.size A zs) (hB : IntsAt w w.heap.size B zs) (hl : zs.length ≤ 1000000) :
    Calls Tryd.prog 19 #[.slice A zs.length c, .slice B zs.length d] w fun e w' => e = .returned (.bool true) ∧ Below w.heap.size w w' := by
  have HA := Lib.hid hA; clear hA
  have HB := Lib.hid hB; clear hB
  go_enter Tryd.func19, Tryd.ntmps19
  go_wp2_with fail
  go_loopw [5] (fun i wr => ∃ k : Nat, k ≤ zs.length ∧ i = .int .i64 k ∧ Below w.heap.size w wr) (fun i _ => zs.length - (intOf i).toNat)
  case atStart => exact ⟨0, by omega, rfl, Below.refl _ _⟩
  case round =>
    obtain ⟨k, hk, rfl, hb⟩ := hrel
    by_cases hlt : k < zs.length
    · obtain ⟨b, off, rfl, hbB, hc⟩ := HA.out (by omega)
      obtain ⟨b2, off2, rfl, hbB2, hc2⟩ := HB.out (by omega)
      have hcell : wr.cell? ⟨b, off + k, none⟩ = some (.int .i64 zs[k]) := (hb.cell (by exact hbB)).trans (hc k hlt)
      have hcell2 : wr.cell? ⟨b2, off2 + k, none⟩ = some (.int .i64 zs[k]) := (hb.cell (by exact hbB2)).trans (hc2 k hlt)
      have Hc := Lib.hid hc; clear hc
      have Hc2 := Lib.hid hc2; clear hc2
      go_wp2
      go_region
      all_goals go_wp2
      all_goals
        go_roundw
        case rel => exact ⟨k + 1, by omega, by go_num, hb.drew⟩
        case measure => simp [intOf]; omega
    · go_wp2
      go_ret
      exact ⟨rfl, hb⟩
end Go.Proofs.YtmfaeahpcoonaaaDoor
