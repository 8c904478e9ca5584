/-
  Contracts of the document's own Signs, Right, Text, Cut, Same.
-/
import Derived.Test.YtbbdmphclnnejaaDoorUtfRefReadC
import Derived.Test.YtbbdmphclnnejaaDoorInts
namespace Go.Proofs.YtbbdmphclnnejaaDoor
open Go.RowKit

theorem rread_yes (s : ByteArray) (n k : Nat) (w : World) (hs : s.size ≤ 9223372036854775807) (h : rd (bs s) = some (n, k)) :
    Calls Tryd.prog 48 #[.string s] w fun e w' => e = .returned (.tuple #[.int .i64 n, .int .i64 k, .bool true]) ∧ Below w.heap.size w w' := by
  have := rread_any s w hs
  rw [rdV_some h] at this
  exact this
theorem rread_no (s : ByteArray) (w : World) (hs : s.size ≤ 9223372036854775807) (h : rd (bs s) = none) :
    Calls Tryd.prog 48 #[.string s] w fun e w' => e = .returned (.tuple #[.int .i64 0, .int .i64 0, .bool false]) ∧ Below w.heap.size w w' := by
  have := rread_any s w hs
  rw [rdV_none h] at this
  exact this

/-- numbers as ints -/
def toI (ns : List Nat) : List Int := ns.map fun n : Nat => (n : Int)
theorem toI_snoc (ns : List Nat) (n : Nat) : toI (ns ++ [n]) = toI ns ++ [(n : Int)] := by simp [toI]
theorem toI_length (ns : List Nat) : (toI ns).length = ns.length := by simp [toI]
/-- what Signs hands back -/
def signsV (l : List UInt8) (w' : World) (base : Nat) (v : Value) (b : Bool) : Prop :=
  (∃ ns, sg l = some ns ∧ OwnI w' base v (toI ns) ∧ b = true) ∨ (sg l = none ∧ v = .slice none 0 0 ∧ b = false)

set_option maxRecDepth 100000 in
set_option maxHeartbeats 800000 in
theorem rsigns_any (s : ByteArray) (w : World) (hs : s.size ≤ 1000000) :
    Calls Tryd.prog 42 #[.string s] w fun e w' => ∃ v b, e = .returned (.tuple #[v, .bool b]) ∧ signsV (bs s) w' w.heap.size v b ∧ Below w.heap.size w w' := by
  go_enter Tryd.func42, Tryd.ntmps42
  go_wp2_with fail
  go_loopw [0, 4] (fun x v wr => ∃ (r : ByteArray) (p : Nat) (ns : List Nat), x = .string r ∧ Hid (bs r = (bs s).drop p) ∧ r.size + p = s.size ∧ Hid (Got (bs s) ns p) ∧ OwnI wr w.heap.size v (toI ns) ∧ Below w.heap.size w wr) (fun x _ _ => strSize x)
  case atStart => exact ⟨s, 0, [], rfl, by show _ = _; rw [List.drop_zero], by omega, Got.zero _, OwnI.nil _ _, Below.refl _ _⟩
  case round =>
    obtain ⟨r, p, ns, rfl, hr, hp, hg, ho, hb⟩ := hrel
    have HO := Lib.hid ho; clear ho
    have hsz := hb.size
    by_cases h0 : r.size = 0
    · have hg2 := hg.out
      rw [show p = (bs s).length by rw [bs_length]; omega] at hg2
      obtain rfl := is_empty r h0
      have Hd := Lib.hid hg2.done
      clear hg2
      go_wp2_with fail
      go_ret2
      exact ⟨_, _, rfl, .inl ⟨ns, Hd.out, HO.out, rfl⟩, hb⟩
    · have hne := ne_empty r (by omega)
      cases hrd : rd (bs r) with
      | none =>
        have Hno : Hid (sg (bs s) = none) := hg.out.stop (by rw [bs_length]; omega) (by rw [← hr.out]; exact hrd)
        have Hrd := Lib.hid hrd; clear hrd
        go_wp2_with (go_at_call 48; refine (rread_no r _ (by omega) Hrd.out).mono ?_; rintro e w1 ⟨rfl, hb1⟩)
        go_ret2
        exact ⟨_, _, rfl, .inr ⟨Hno.out, rfl, rfl⟩, hb.trans (hb1.mono hsz)⟩
      | some q =>
        obtain ⟨n, k⟩ := q
        have hpos := rd_pos hrd
        rw [bs_length] at hpos
        have Hg2 := Lib.hid (hg.out.more (by rw [← hr.out]; exact hrd))
        have Hr2 : Hid (bs (r.extract k r.size) = (bs s).drop (p + k)) := by
          show _ = _
          rw [bs_rest, hr.out, List.drop_drop]
        have hlen := hg.out.len
        have Hrd := Lib.hid hrd; clear hrd
        go_wp2_with fail
        refine (rread_yes r n k _ (by omega) Hrd.out).mono ?_
        rintro e w1 ⟨rfl, hb1⟩
        have hs1 := hb1.size
        have ho1 := HO.out.below hb1
        go_wp2_with (at_builtin; refine wpList_append_int rfl _ _ rfl w.heap.size _ (toI ns) n ho1 rfl rfl (by rw [toI_length]; omega) (by omega) ?_; intro v' w2 ho2 _ hb2)
        go_roundw
        case rel => exact ⟨r.extract k r.size, p + k, ns ++ [n], by simp, Hr2, by simp; omega, Hg2, by rw [toI_snoc]; exact ho2, (hb.trans (hb1.mono hsz)).trans hb2⟩
        case measure => simp [strSize]; omega

set_option maxRecDepth 100000 in
set_option maxHeartbeats 400000 in
theorem rright_any (s : ByteArray) (w : World) (hs : s.size ≤ 1000000) :
    Calls Tryd.prog 28 #[.string s] w fun e w' => e = .returned (.bool (sg (bs s)).isSome) ∧ Below w.heap.size w w' := by
  go_enter Tryd.func28, Tryd.ntmps28
  go_wp2_with fail
  refine (rsigns_any s _ hs).mono ?_
  rintro e w1 ⟨v, b, rfl, hv, hb1⟩
  have Hv : Hid (b = (sg (bs s)).isSome) := by
    show _ = _
    rcases hv with ⟨ns, h1, _, h3⟩ | ⟨h1, _, h3⟩
    · rw [h1, h3]; rfl
    · rw [h1, h3]; rfl
  clear hv
  go_wp2
  go_ret
  exact ⟨by rw [Hv.out]; rfl, hb1⟩

/-- the bytes of ints, if each is a code point -/
def txt (zs : List Int) : List UInt8 := text (zs.map Int.toNat)
theorem txt_snoc (zs : List Int) (n : Nat) : txt (zs ++ [(n : Int)]) = txt zs ++ enc n := by
  unfold txt; rw [List.map_append, text_append]; simp [text]
theorem txt_length (zs : List Int) : (txt zs).length ≤ 4 * zs.length := by
  have := text_length_le (zs.map Int.toNat)
  simpa [txt] using this
/-- what Text hands back -/
def txtV (zs : List Int) : List UInt8 × Bool := if zs.all isP then (txt zs, true) else ([], false)
theorem txtV_bad {zs : List Int} {k : Nat} (hk : k < zs.length) (h : isP zs[k] = false) : txtV zs = ([], false) := by
  unfold txtV
  rw [if_neg]
  intro h2
  rw [List.all_eq_true] at h2
  rw [h2 _ (List.getElem_mem hk)] at h; cases h
theorem txtV_good {zs : List Int} (h : (zs.take zs.length).all isP = true) : txtV zs = (txt zs, true) := by
  unfold txtV
  rw [List.take_length] at h
  rw [if_pos h]
theorem all_take {zs : List Int} {k : Nat} (hk : k < zs.length) (h : (zs.take k).all isP = true) (h2 : isP zs[k] = true) : (zs.take (k + 1)).all isP = true := by
  rw [List.take_succ_eq_append_getElem hk, List.all_append, h]; simp [h2]
theorem isP_nat {z : Int} (h : isP z = true) : ∃ n : Nat, z = n ∧ isP n = true ∧ n ≤ 1114111 := by
  have h' := (isP_iff z).1 h
  obtain ⟨n, rfl⟩ := Int.eq_ofNat_of_zero_le h'.1
  exact ⟨n, rfl, h, by omega⟩

theorem cut_ex (l : List UInt8) (most : Int) : ∀ p : Nat, ∃ c, CutAt l most p c
  | 0 => ⟨0, CutAt.zero _ _⟩
  | p + 1 => by
    obtain ⟨c, h1, h2, h3⟩ := cut_ex l most p
    by_cases hq : ((p + 1 : Nat) : Int) ≤ most ∧ (sg (l.take (p + 1))).isSome = true
    · exact ⟨p + 1, by omega, .inr hq, fun j h4 h5 => by omega⟩
    · refine ⟨c, by omega, h2, fun j h4 h5 h6 => ?_⟩
      by_cases hj : j ≤ p
      · exact h3 j h4 hj h6
      · obtain rfl : j = p + 1 := by omega
        cases hs : sg (l.take (p + 1)) with
        | none => rfl
        | some x => exact absurd ⟨h6, by rw [hs]; rfl⟩ hq

end Go.Proofs.YtbbdmphclnnejaaDoor
