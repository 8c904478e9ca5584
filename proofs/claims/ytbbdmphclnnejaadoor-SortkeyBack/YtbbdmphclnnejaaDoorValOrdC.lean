/-
  Contracts of package value's Order (with the library's cmp.Compare and cmp.Or at int and int64) and of the document's own.
-/
import Derived.Test.YtbbdmphclnnejaaDoorValC
import Derived.Test.YtbbdmphclnnejaaDoorNameOrdC
import Derived.StillTailTactics
namespace Go.Proofs.YtbbdmphclnnejaaDoor
open Go.RowKit

def cmpI (x y : Int) : Int := if x < y then -1 else if y < x then 1 else 0
def or3 (x y z : Int) : Int := if x ≠ 0 then x else if y ≠ 0 then y else z
/-- the order of values -/
def ordV (k n : Int) (l : List UInt8) (k' n' : Int) (l' : List UInt8) : Int := or3 (cmpI k k') (cmpI n n') (ordN l l')
theorem cmpI_neg (x y : Int) : cmpI y x = -cmpI x y := by
  unfold cmpI
  by_cases h1 : x < y
  · rw [if_neg (by omega), if_pos h1, if_pos h1]; rfl
  · by_cases h2 : y < x
    · rw [if_pos h2, if_neg h1, if_pos h2]
    · rw [if_neg h2, if_neg h1, if_neg h1, if_neg h2]; rfl
theorem cmpI_zero {x y : Int} : cmpI x y = 0 ↔ x = y := by
  unfold cmpI
  by_cases h1 : x < y
  · rw [if_pos h1]; omega
  · by_cases h2 : y < x
    · rw [if_neg h1, if_pos h2]; omega
    · rw [if_neg h1, if_neg h2]; omega
theorem ordN_neg : ∀ l m : List UInt8, ordN m l = -ordN l m
  | [], [] => rfl
  | [], _ :: _ => rfl
  | _ :: _, [] => rfl
  | a :: r, b :: s => by
    simp only [ordN]
    by_cases h1 : a.toNat < b.toNat
    · rw [if_neg (by omega), if_pos h1, if_pos h1]; rfl
    · by_cases h2 : b.toNat < a.toNat
      · rw [if_pos h2, if_neg h1, if_pos h2]
      · rw [if_neg h2, if_neg h1, if_neg h1, if_neg h2]; exact ordN_neg r s
theorem ordV_neg (k n : Int) (l : List UInt8) (k' n' : Int) (l' : List UInt8) : ordV k' n' l' k n l = -ordV k n l k' n' l' := by
  unfold ordV or3
  rw [cmpI_neg k k', cmpI_neg n n', ordN_neg l l']
  repeat' split
  all_goals omega
theorem ordV_zero (k n : Int) (l : List UInt8) (k' n' : Int) (l' : List UInt8) : ordV k n l k' n' l' = 0 ↔ k = k' ∧ n = n' ∧ l = l' := by
  unfold ordV or3
  by_cases h1 : cmpI k k' = 0
  · rw [h1, if_neg (by simp)]
    have e1 := cmpI_zero.1 h1
    by_cases h2 : cmpI n n' = 0
    · rw [h2, if_neg (by simp)]
      have e2 := cmpI_zero.1 h2
      constructor
      · intro h; exact ⟨e1, e2, ordN_zero h⟩
      · rintro ⟨_, _, rfl⟩; exact ordN_self _
    · rw [if_pos h2]
      constructor
      · intro h; exact absurd h h2
      · rintro ⟨_, h, _⟩; exact absurd (cmpI_zero.2 h) h2
  · rw [if_pos h1]
    constructor
    · intro h; exact absurd h h1
    · rintro ⟨h, _⟩; exact absurd (cmpI_zero.2 h) h1

set_option maxRecDepth 100000 in
set_option maxHeartbeats 1600000 in
theorem vrorder_any (k n k' n' : Int) (s t : ByteArray) (w : World) (hs : s.size ≤ 1000000) (ht : t.size ≤ 1000000) :
    Calls Tryd.prog 29 #[VV k n s, VV k' n' t] w fun e w' => e = .returned (.int .i64 (ordV k n (bs s) k' n' (bs t))) ∧ Below w.heap.size w w' := by
  have H3 := Lib.hid (fun w => rorder_any s t w hs ht)
  have Hv : Hid (ordV k n (bs s) k' n' (bs t) = or3 (cmpI k k') (cmpI n n') (ordN (bs s) (bs t))) := rfl
  generalize ordN (bs s) (bs t) = o at H3 Hv
  clear hs ht
  by_cases h1 : k < k'
  · have Hr : Hid (ordV k n (bs s) k' n' (bs t) = -1) := by show _ = _; rw [Hv.out, or3, cmpI, if_pos h1]; rfl
    have d1 : decide (k < k') = true := by simp; omega
    clear h1 Hv
    go_enter Tryd.func29, Tryd.ntmps29
    go_wp2_with fail
    go_ret
    exact ⟨by rw [Hr.out]; rfl, by go_grown⟩
  by_cases h2 : k' < k
  · have Hr : Hid (ordV k n (bs s) k' n' (bs t) = 1) := by show _ = _; rw [Hv.out, or3, cmpI, if_neg h1, if_pos h2]; rfl
    have d1 : decide (k < k') = false := by simp; omega
    have d2 : decide (k' < k) = true := by simp; omega
    have d3 : (k == k') = false := by simp; omega
    clear h1 h2 Hv
    go_enter Tryd.func29, Tryd.ntmps29
    go_wp2_with fail
    go_ret
    exact ⟨by rw [Hr.out]; rfl, by go_grown⟩
  obtain rfl : k = k' := by omega
  clear h1 h2
  have d1 : decide (k < k) = false := by simp
  have d3 : (k == k) = true := by simp
  have Hv' : Hid (ordV k n (bs s) k n' (bs t) = if cmpI n n' ≠ 0 then cmpI n n' else o) := by show _ = _; rw [Hv.out, or3, cmpI_zero.2 rfl]; rfl
  clear Hv
  by_cases h1 : n < n'
  · have Hr : Hid (ordV k n (bs s) k n' (bs t) = -1) := by show _ = _; rw [Hv'.out, cmpI, if_pos h1]; rfl
    have d4 : decide (n < n') = true := by simp; omega
    clear h1 Hv'
    go_enter Tryd.func29, Tryd.ntmps29
    go_wp2_with fail
    go_ret
    exact ⟨by rw [Hr.out]; rfl, by go_grown⟩
  by_cases h2 : n' < n
  · have Hr : Hid (ordV k n (bs s) k n' (bs t) = 1) := by show _ = _; rw [Hv'.out, cmpI, if_neg h1, if_pos h2]; rfl
    have d4 : decide (n < n') = false := by simp; omega
    have d5 : decide (n' < n) = true := by simp; omega
    clear h1 h2 Hv'
    go_enter Tryd.func29, Tryd.ntmps29
    go_wp2_with fail
    go_ret
    exact ⟨by rw [Hr.out]; rfl, by go_grown⟩
  have Hr : Hid (ordV k n (bs s) k n' (bs t) = o) := by show _ = _; rw [Hv'.out, cmpI, if_neg h1, if_neg h2]; rfl
  have d4 : decide (n < n') = false := by simp; omega
  have d5 : decide (n' < n) = false := by simp; omega
  clear h1 h2 Hv'
  go_enter Tryd.func29, Tryd.ntmps29
  go_wp2_with fail
  refine (H3.out _).mono ?_
  rintro e w3 ⟨rfl, hd3⟩
  have B7 := hd3.below w.heap.size
  go_wp2_with fail
  go_ret
  exact ⟨by rw [Hr.out]; rfl, Below.trans (by go_grown) B7⟩
end Go.Proofs.YtbbdmphclnnejaaDoor
