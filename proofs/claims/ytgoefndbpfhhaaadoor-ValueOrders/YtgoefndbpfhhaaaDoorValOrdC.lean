/-
  Contracts of package value's Order (with the library's cmp.Compare and cmp.Or at int and int64) and of the document's own.
-/
import Derived.Test.YtgoefndbpfhhaaaDoorValC
import Derived.Test.YtgoefndbpfhhaaaDoorNameOrdC
import Derived.StillTailTactics
namespace Go.Proofs.YtgoefndbpfhhaaaDoor
open Go.RowKit

def cmpI (x y : Int) : Int := if x < y then -1 else if y < x then 1 else 0
set_option maxHeartbeats 400000 in
theorem cmpInt_any (x y : Int) (w : World) : Calls Tryd.prog 36 #[.int .i64 x, .int .i64 y] w fun e w' => e = .returned (.int .i64 (cmpI x y)) ∧ w' = w := by
  have n1 : (x != x) = false := by simp
  have n2 : (y != y) = false := by simp
  by_cases h1 : x < y
  · have d1 : decide (x < y) = true := by simp; omega
    have Hs : Hid (cmpI x y = -1) := if_pos h1
    clear h1
    go_enter Tryd.func36, Tryd.ntmps36
    go_wp2
    go_ret
    exact ⟨by rw [Hs.out]; rfl, rfl⟩
  · have d1 : decide (x < y) = false := by simp; omega
    by_cases h2 : y < x
    · have d2 : decide (y < x) = true := by simp; omega
      have Hs : Hid (cmpI x y = 1) := by show _ = _; unfold cmpI; rw [if_neg h1, if_pos h2]
      clear h1 h2
      go_enter Tryd.func36, Tryd.ntmps36
      go_wp2
      go_ret
      exact ⟨by rw [Hs.out]; rfl, rfl⟩
    · have d2 : decide (y < x) = false := by simp; omega
      have Hs : Hid (cmpI x y = 0) := by show _ = _; unfold cmpI; rw [if_neg h1, if_neg h2]
      clear h1 h2
      go_enter Tryd.func36, Tryd.ntmps36
      go_wp2
      go_ret
      exact ⟨by rw [Hs.out]; rfl, rfl⟩
set_option maxHeartbeats 400000 in
theorem cmpInt64_any (x y : Int) (w : World) : Calls Tryd.prog 37 #[.int .i64 x, .int .i64 y] w fun e w' => e = .returned (.int .i64 (cmpI x y)) ∧ w' = w := by
  have n1 : (x != x) = false := by simp
  have n2 : (y != y) = false := by simp
  by_cases h1 : x < y
  · have d1 : decide (x < y) = true := by simp; omega
    have Hs : Hid (cmpI x y = -1) := if_pos h1
    clear h1
    go_enter Tryd.func37, Tryd.ntmps37
    go_wp2
    go_ret
    exact ⟨by rw [Hs.out]; rfl, rfl⟩
  · have d1 : decide (x < y) = false := by simp; omega
    by_cases h2 : y < x
    · have d2 : decide (y < x) = true := by simp; omega
      have Hs : Hid (cmpI x y = 1) := by show _ = _; unfold cmpI; rw [if_neg h1, if_pos h2]
      clear h1 h2
      go_enter Tryd.func37, Tryd.ntmps37
      go_wp2
      go_ret
      exact ⟨by rw [Hs.out]; rfl, rfl⟩
    · have d2 : decide (y < x) = false := by simp; omega
      have Hs : Hid (cmpI x y = 0) := by show _ = _; unfold cmpI; rw [if_neg h1, if_neg h2]
      clear h1 h2
      go_enter Tryd.func37, Tryd.ntmps37
      go_wp2
      go_ret
      exact ⟨by rw [Hs.out]; rfl, rfl⟩

def or3 (x y z : Int) : Int := if x ≠ 0 then x else if y ≠ 0 then y else z
set_option maxHeartbeats 400000 in
theorem or3_any (b : Nat) (x y z : Int) (w : World) (c0 : w.cell? ⟨b, 0, none⟩ = some (.int .i64 x)) (c1 : w.cell? ⟨b, 1, none⟩ = some (.int .i64 y)) (c2 : w.cell? ⟨b, 2, none⟩ = some (.int .i64 z)) :
    Calls Tryd.prog 35 #[.slice (some ⟨b, 0, none⟩) 3 3] w fun e w' => e = .returned (.int .i64 (or3 x y z)) ∧ w = w' := by
  have Hs : Hid (or3 x y z = if x ≠ 0 then x else if y ≠ 0 then y else z) := rfl
  by_cases hx : x = 0
  · have dx : (x != 0) = false := by simpa using hx
    rw [if_neg (by simpa using hx)] at Hs
    by_cases hy : y = 0
    · have dy : (y != 0) = false := by simpa using hy
      rw [if_neg (by simpa using hy)] at Hs
      by_cases hz : z = 0
      · have dz : (z != 0) = false := by simpa using hz
        go_enter Tryd.func35, Tryd.ntmps35
        go_wp2_with fail
        go_rounds 4
        go_ret
        exact ⟨by rw [Hs.out, hz]; rfl, rfl⟩
      · have dz : (z != 0) = true := by simpa using hz
        go_enter Tryd.func35, Tryd.ntmps35
        go_wp2_with fail
        go_rounds 4
        go_ret
        exact ⟨by rw [Hs.out]; rfl, rfl⟩
    · have dy : (y != 0) = true := by simpa using hy
      rw [if_pos (by simpa using hy)] at Hs
      go_enter Tryd.func35, Tryd.ntmps35
      go_wp2_with fail
      go_rounds 3
      go_ret
      exact ⟨by rw [Hs.out]; rfl, rfl⟩
  · have dx : (x != 0) = true := by simpa using hx
    rw [if_pos (by simpa using hx)] at Hs
    go_enter Tryd.func35, Tryd.ntmps35
    go_wp2_with fail
    go_rounds 2
    go_ret
    exact ⟨by rw [Hs.out]; rfl, rfl⟩

/-- the order of values -/
def ordV (k n : Int) (l : List UInt8) (k' n' : Int) (l' : List UInt8) : Int := or3 (cmpI k k') (cmpI n n') (ordN l l')
set_option maxRecDepth 100000 in
set_option maxHeartbeats 1600000 in
theorem vorder_any (k n k' n' : Int) (s t : ByteArray) (w : World) (hs : s.size ≤ 1000000) (ht : t.size ≤ 1000000) :
    Calls Tryd.prog 18 #[VV k n s, VV k' n' t] w fun e w' => e = .returned (.int .i64 (ordV k n (bs s) k' n' (bs t))) ∧ Below w.heap.size w w' := by
  have H1 := Lib.hid (fun w => cmpInt_any k k' w)
  have H2 := Lib.hid (fun w => cmpInt64_any n n' w)
  have H3 := Lib.hid (fun w => order_any s t w hs ht)
  have Hv : Hid (ordV k n (bs s) k' n' (bs t) = or3 (cmpI k k') (cmpI n n') (ordN (bs s) (bs t))) := rfl
  generalize ordN (bs s) (bs t) = o at H3 Hv
  generalize cmpI k k' = x at H1 Hv
  generalize cmpI n n' = y at H2 Hv
  go_enter Tryd.func18, Tryd.ntmps18
  go_wp2_with fail
  have B1 : Blk3 ((w.alloc (.cells #[.int .i64 k, .int .i64 n, .string s] 23)).alloc (.cells #[.int .i64 k', .int .i64 n', .string t] 23)) w.heap.size (.int .i64 k) (.int .i64 n) (.string s) :=
    (Blk3.new w _ _ _ _).below ((Below.refl _ _).alloc (Nat.le_refl _) _) (by simp)
  have B2 : Blk3 ((w.alloc (.cells #[.int .i64 k, .int .i64 n, .string s] 23)).alloc (.cells #[.int .i64 k', .int .i64 n', .string t] 23)) (w.heap.size + 1) (.int .i64 k') (.int .i64 n') (.string t) := by
    have := Blk3.new (w.alloc (.cells #[.int .i64 k, .int .i64 n, .string s] 23)) (.int .i64 k') (.int .i64 n') (.string t) 23
    simpa using this
  have B3 : Below w.heap.size w ((w.alloc (.cells #[.int .i64 k, .int .i64 n, .string s] 23)).alloc (.cells #[.int .i64 k', .int .i64 n', .string t] 23)) := by go_grown
  generalize (w.alloc (.cells #[.int .i64 k, .int .i64 n, .string s] 23)).alloc (.cells #[.int .i64 k', .int .i64 n', .string t] 23) = W0 at B1 B2 B3 ⊢
  refine wp_region_still_tail 14 (by kernel_rfl) (by kernel_rfl) ?_
  have hd : Drew W0 { W0 with drawn := W0.drawn + 1 } := ⟨1, rfl⟩
  have B4 := B3.trans (hd.below _)
  have B5 : Blk3 { W0 with drawn := W0.drawn + 1 } w.heap.size (.int .i64 k) (.int .i64 n) (.string s) := B1.below (hd.below (w.heap.size + 1)) (by omega)
  have B6 : Blk3 { W0 with drawn := W0.drawn + 1 } (w.heap.size + 1) (.int .i64 k') (.int .i64 n') (.string t) := B2.below (hd.below (w.heap.size + 2)) (by omega)
  clear hd B1 B2 B3
  generalize ({ W0 with drawn := W0.drawn + 1 } : World) = W at B4 B5 B6 ⊢
  clear W0
  obtain ⟨c0, c1, c2, _⟩ := B5
  obtain ⟨d0, d1, d2, _⟩ := B6
  simp only [List.take_succ_cons, List.take_zero, List.drop_succ_cons, List.drop_zero]
  repeat still_step
  still_call (H1.out _)
  repeat still_step
  still_call (H2.out _)
  repeat still_step
  refine wpStill_nil ?_
  go_wp2_with fail
  refine (H3.out _).mono ?_
  rintro e w3 ⟨rfl, hd3⟩
  have B7 := B4.trans (hd3.below _)
  clear c0 c1 c2 d0 d1 d2
  go_wp2_with fail
  refine (or3_any _ x y o _ (by simp) (by simp) (by simp)).mono ?_
  rintro e w4 ⟨rfl, rfl⟩
  go_wp2_with fail
  go_ret
  exact ⟨by rw [Hv.out]; rfl, B7.alloc (by have := B7.size; omega) _⟩

theorem cmpI_neg (x y : Int) : cmpI y x = -cmpI x y := by
  unfold cmpI
  by_cases h1 : x < y
  · rw [if_neg (by omega), if_pos h1, if_pos h1]; rfl
  · by_cases h2 : y < x
    · rw [if_pos h2, if_neg h1, if_pos h2]
    · rw [if_neg h2, if_neg h1, if_neg h1, if_neg h2]; rfl
theorem cmpI_zero {x y : Int} : cmpI x y = 0 ↔ x = y := by
  unfold cmpI
  by_cases h1 : x < y
  · rw [if_pos h1]; omega
  · by_cases h2 : y < x
    · rw [if_neg h1, if_pos h2]; omega
    · rw [if_neg h1, if_neg h2]; omega
theorem ordN_neg : ∀ l m : List UInt8, ordN m l = -ordN l m
  | [], [] => rfl
  | [], _ :: _ => rfl
  | _ :: _, [] => rfl
  | a :: r, b :: s => by
    simp only [ordN]
    by_cases h1 : a.toNat < b.toNat
    · rw [if_neg (by omega), if_pos h1, if_pos h1]; rfl
    · by_cases h2 : b.toNat < a.toNat
      · rw [if_pos h2, if_neg h1, if_pos h2]
      · rw [if_neg h2, if_neg h1, if_neg h1, if_neg h2]; exact ordN_neg r s
theorem ordV_neg (k n : Int) (l : List UInt8) (k' n' : Int) (l' : List UInt8) : ordV k' n' l' k n l = -ordV k n l k' n' l' := by
  unfold ordV or3
  rw [cmpI_neg k k', cmpI_neg n n', ordN_neg l l']
  repeat' split
  all_goals omega
theorem ordV_zero (k n : Int) (l : List UInt8) (k' n' : Int) (l' : List UInt8) : ordV k n l k' n' l' = 0 ↔ k = k' ∧ n = n' ∧ l = l' := by
  unfold ordV or3
  by_cases h1 : cmpI k k' = 0
  · rw [h1, if_neg (by simp)]
    have e1 := cmpI_zero.1 h1
    by_cases h2 : cmpI n n' = 0
    · rw [h2, if_neg (by simp)]
      have e2 := cmpI_zero.1 h2
      constructor
      · intro h; exact ⟨e1, e2, ordN_zero h⟩
      · rintro ⟨_, _, rfl⟩; exact ordN_self _
    · rw [if_pos h2]
      constructor
      · intro h; exact absurd h h2
      · rintro ⟨_, h, _⟩; exact absurd (cmpI_zero.2 h) h2
  · rw [if_pos h1]
    constructor
    · intro h; exact absurd h h1
    · rintro ⟨h, _⟩; exact absurd (cmpI_zero.2 h) h1

set_option maxRecDepth 100000 in
set_option maxHeartbeats 1600000 in
theorem vrorder_any (k n k' n' : Int) (s t : ByteArray) (w : World) (hs : s.size ≤ 1000000) (ht : t.size ≤ 1000000) :
    Calls Tryd.prog 19 #[VV k n s, VV k' n' t] w fun e w' => e = .returned (.int .i64 (ordV k n (bs s) k' n' (bs t))) ∧ Below w.heap.size w w' := by
  have H3 := Lib.hid (fun w => rorder_any s t w hs ht)
  have Hv : Hid (ordV k n (bs s) k' n' (bs t) = or3 (cmpI k k') (cmpI n n') (ordN (bs s) (bs t))) := rfl
  generalize ordN (bs s) (bs t) = o at H3 Hv
  clear hs ht
  by_cases h1 : k < k'
  · have Hr : Hid (ordV k n (bs s) k' n' (bs t) = -1) := by show _ = _; rw [Hv.out, or3, cmpI, if_pos h1]; rfl
    have d1 : decide (k < k') = true := by simp; omega
    clear h1 Hv
    go_enter Tryd.func19, Tryd.ntmps19
    go_wp2_with fail
    go_ret
    exact ⟨by rw [Hr.out]; rfl, by go_grown⟩
  by_cases h2 : k' < k
  · have Hr : Hid (ordV k n (bs s) k' n' (bs t) = 1) := by show _ = _; rw [Hv.out, or3, cmpI, if_neg h1, if_pos h2]; rfl
    have d1 : decide (k < k') = false := by simp; omega
    have d2 : decide (k' < k) = true := by simp; omega
    have d3 : (k == k') = false := by simp; omega
    clear h1 h2 Hv
    go_enter Tryd.func19, Tryd.ntmps19
    go_wp2_with fail
    go_ret
    exact ⟨by rw [Hr.out]; rfl, by go_grown⟩
  obtain rfl : k = k' := by omega
  clear h1 h2
  have d1 : decide (k < k) = false := by simp
  have d3 : (k == k) = true := by simp
  have Hv' : Hid (ordV k n (bs s) k n' (bs t) = if cmpI n n' ≠ 0 then cmpI n n' else o) := by show _ = _; rw [Hv.out, or3, cmpI_zero.2 rfl]; rfl
  clear Hv
  by_cases h1 : n < n'
  · have Hr : Hid (ordV k n (bs s) k n' (bs t) = -1) := by show _ = _; rw [Hv'.out, cmpI, if_pos h1]; rfl
    have d4 : decide (n < n') = true := by simp; omega
    clear h1 Hv'
    go_enter Tryd.func19, Tryd.ntmps19
    go_wp2_with fail
    go_ret
    exact ⟨by rw [Hr.out]; rfl, by go_grown⟩
  by_cases h2 : n' < n
  · have Hr : Hid (ordV k n (bs s) k n' (bs t) = 1) := by show _ = _; rw [Hv'.out, cmpI, if_neg h1, if_pos h2]; rfl
    have d4 : decide (n < n') = false := by simp; omega
    have d5 : decide (n' < n) = true := by simp; omega
    clear h1 h2 Hv'
    go_enter Tryd.func19, Tryd.ntmps19
    go_wp2_with fail
    go_ret
    exact ⟨by rw [Hr.out]; rfl, by go_grown⟩
  have Hr : Hid (ordV k n (bs s) k n' (bs t) = o) := by show _ = _; rw [Hv'.out, cmpI, if_neg h1, if_neg h2]; rfl
  have d4 : decide (n < n') = false := by simp; omega
  have d5 : decide (n' < n) = false := by simp; omega
  clear h1 h2 Hv'
  go_enter Tryd.func19, Tryd.ntmps19
  go_wp2_with fail
  refine (H3.out _).mono ?_
  rintro e w3 ⟨rfl, hd3⟩
  have B7 := hd3.below w.heap.size
  go_wp2_with fail
  go_ret
  exact ⟨by rw [Hr.out]; rfl, Below.trans (by go_grown) B7⟩
end Go.Proofs.YtgoefndbpfhhaaaDoor
