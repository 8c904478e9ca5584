/-
  Contracts of package sortkey: readRest and Read.
-/
import Derived.Test.YtbbdmphclnnejaaDoorSkReadC
import Derived.Deep.RegionWith
import Derived.OwnWalk
namespace Go.Proofs.YtbbdmphclnnejaaDoor
open Go.RowKit

/-- what readRest returns: with an error the other results are free -/
def RestR (q : Vl × Nat × Nat) (e : Ending) : Prop := ∃ (k n : Int) (t : ByteArray) (sz : Nat), e = .returned (.tuple #[VV k n t, .int .i64 sz, .int .i64 (q.2.2 : Nat)]) ∧ (q.2.2 = 0 → q.1 = (k, n, bs t) ∧ q.2.1 = sz + 1)

theorem size_of' {t : ByteArray} {l : List UInt8} (h : bs t = l) : t.size = l.length := by rw [← h, bs_length]
set_option maxRecDepth 100000 in
set_option maxHeartbeats 800000 in
theorem rest0 (r : ByteArray) (w : World) : Calls Tryd.prog 26 #[.int .i64 0, .string r] w fun e w' => RestR (readK (0 :: bs r)) e ∧ Below w.heap.size w w' := by
  go_enter Tryd.func26, Tryd.ntmps26
  go_wp2_with fail
  go_returns
  exact ⟨⟨0, 0, ⟨#[]⟩, 0, rfl, fun _ => ⟨rfl, rfl⟩⟩, by go_grown⟩
set_option maxRecDepth 100000 in
set_option maxHeartbeats 800000 in
theorem restBig (c : UInt8) (r : ByteArray) (w : World) (hc : 4 < c.toNat) : Calls Tryd.prog 26 #[.int .i64 (c.toNat : Nat), .string r] w fun e w' => RestR (readK (c :: bs r)) e ∧ Below w.heap.size w w' := by
  have Hv : Hid (readK (c :: bs r) = (noV, 0, 5)) := by show _ = _; simp only [readK]; rw [if_pos hc]
  have d0 : ((c.toNat : Int) == 0) = false := by simp; omega
  have d1 : ((c.toNat : Int) == 1) = false := by simp; omega
  have d2 : ((c.toNat : Int) == 2) = false := by simp; omega
  have d3 : ((c.toNat : Int) == 3) = false := by simp; omega
  have d4 : ((c.toNat : Int) == 4) = false := by simp; omega
  clear hc
  go_enter Tryd.func26, Tryd.ntmps26
  go_wp2_with fail
  go_returns
  exact ⟨⟨0, 0, ⟨#[]⟩, 0, by rw [Hv.out]; rfl, fun h => by rw [Hv.out] at h; cases h⟩, by go_grown⟩
theorem readK_1 (l : List UInt8) : readK (1 :: l) = if l.length < 4 then (noV, 0, 4) else ((1, (unbe (l.take 4) : Int) - 2147483648, []), 5, 0) := by
  simp only [readK]; rw [if_neg (by decide), if_neg (by decide), if_pos (by decide)]
theorem readK_2 (l : List UInt8) : readK (2 :: l) = if l.length < 8 then (noV, 0, 4) else ((2, (unbe (l.take 8) : Int) - 9223372036854775808, []), 9, 0) := by
  simp only [readK]; rw [if_neg (by decide), if_neg (by decide), if_neg (by decide), if_pos (by decide)]
theorem readK_3 (l : List UInt8) : readK (3 :: l) = readK2 3 (scan l) := by
  simp only [readK]; rw [if_neg (by decide), if_neg (by decide), if_neg (by decide), if_neg (by decide)]; rfl
theorem readK_4 (l : List UInt8) : readK (4 :: l) = readK2 4 (scan l) := by
  simp only [readK]; rw [if_neg (by decide), if_neg (by decide), if_neg (by decide), if_neg (by decide)]; rfl
theorem take_lt (l : List UInt8) (k : Nat) (h : k ≤ l.length) : unbe (l.take k) < 256 ^ k := by
  have := unbe_lt (l.take k)
  rw [List.length_take, Nat.min_eq_left h] at this; exact this
set_option maxRecDepth 100000 in
set_option maxHeartbeats 800000 in
theorem rest1 (r : ByteArray) (w : World) (hr : r.size ≤ 1000000) : Calls Tryd.prog 26 #[.int .i64 1, .string r] w fun e w' => RestR (readK (1 :: bs r)) e ∧ Below w.heap.size w w' := by
  have Hv := Lib.hid (readK_1 (bs r))
  rw [bs_length] at Hv
  by_cases h : r.size < 4
  · rw [if_pos h] at Hv
    have HN := Lib.hid (fun w => rdNum_short r 4 w h (by omega))
    go_enter Tryd.func26, Tryd.ntmps26
    go_wp2_with fail
    refine (HN.out _).mono ?_
    rintro e w1 ⟨rfl, rfl⟩
    go_wp2_with fail
    go_returns
    exact ⟨⟨_, _, _, 4, by rw [Hv.out]; rfl, fun h => by rw [Hv.out] at h; cases h⟩, by go_grown⟩
  · rw [if_neg h] at Hv
    have HN := Lib.hid (fun w => rdNum_any r 4 2147483648 w topBit4 (by omega) (by omega) hr (by omega))
    have hl := take_lt (bs r) 4 (by rw [bs_length]; omega)
    have hg := get4 (unbe ((bs r).take 4)) hl
    clear hl
    generalize unbe ((bs r).take 4) ^^^ 2147483648 = y at HN hg
    generalize unbe ((bs r).take 4) = x at Hv hg
    have hx : (x : Int) - 2147483648 < 9223372036854775808 := by have := hg; simp [IntKind.wrap, IntKind.bits, IntKind.signed] at this; omega
    go_enter Tryd.func26, Tryd.ntmps26
    go_wp2_with fail
    refine (HN.out _).mono ?_
    rintro e w1 ⟨rfl, rfl⟩
    go_wp2_with fail
    go_returns
    exact ⟨⟨1, (x : Int) - 2147483648, ⟨#[]⟩, 4, by rw [Hv.out]; rfl, fun _ => by rw [Hv.out]; exact ⟨rfl, rfl⟩⟩, by go_grown⟩
set_option maxRecDepth 100000 in
set_option maxHeartbeats 800000 in
theorem rest2 (r : ByteArray) (w : World) (hr : r.size ≤ 1000000) : Calls Tryd.prog 26 #[.int .i64 2, .string r] w fun e w' => RestR (readK (2 :: bs r)) e ∧ Below w.heap.size w w' := by
  have Hv := Lib.hid (readK_2 (bs r))
  rw [bs_length] at Hv
  by_cases h : r.size < 8
  · rw [if_pos h] at Hv
    have HN := Lib.hid (fun w => rdNum_short r 8 w h (by omega))
    go_enter Tryd.func26, Tryd.ntmps26
    go_wp2_with fail
    refine (HN.out _).mono ?_
    rintro e w1 ⟨rfl, rfl⟩
    go_wp2_with fail
    go_returns
    exact ⟨⟨_, _, _, 8, by rw [Hv.out]; rfl, fun h => by rw [Hv.out] at h; cases h⟩, by go_grown⟩
  · rw [if_neg h] at Hv
    have HN := Lib.hid (fun w => rdNum_any r 8 9223372036854775808 w topBit8 (by omega) (by omega) hr (by omega))
    have hl := take_lt (bs r) 8 (by rw [bs_length]; omega)
    have hg := get8 (unbe ((bs r).take 8)) hl
    have hg2 : wrap64 ((unbe ((bs r).take 8) ^^^ 9223372036854775808 : Nat) : Int) = (unbe ((bs r).take 8) : Int) - 9223372036854775808 := by rw [wrap64_eq, ← wrap_i64_eq]; exact hg
    clear hl
    generalize unbe ((bs r).take 8) ^^^ 9223372036854775808 = y at HN hg hg2
    generalize unbe ((bs r).take 8) = x at Hv hg hg2
    go_enter Tryd.func26, Tryd.ntmps26
    go_wp2_with fail
    refine (HN.out _).mono ?_
    rintro e w1 ⟨rfl, rfl⟩
    go_wp2_with fail
    go_returns
    exact ⟨⟨2, (x : Int) - 9223372036854775808, ⟨#[]⟩, 8, by rw [Hv.out]; rfl, fun _ => by rw [Hv.out]; exact ⟨rfl, rfl⟩⟩, by go_grown⟩
theorem chk_read2 (c : Nat) (l : List UInt8) (m : Nat) : readK2 c (l, m, 0) = if chkE c l = 0 then (((c : Int), 0, l), m + 1, 0) else (noV, 0, chkE c l) := by
  unfold readK2 chkE
  simp only [if_true]
  by_cases h1 : c = 3 ∧ (sg l).isSome = false
  · rw [if_pos h1, if_pos h1, if_neg (by decide)]
  · rw [if_neg h1, if_neg h1]
    by_cases h2 : 120 < l.length
    · rw [if_pos h2, if_pos h2, if_neg (by decide)]
    · rw [if_neg h2, if_neg h2, if_pos rfl]
theorem err_read2 (c : Nat) (q : List UInt8 × Nat × Nat) (h : q.2.2 ≠ 0) : readK2 c q = (noV, 0, q.2.2) := by
  unfold readK2; rw [if_neg h]
set_option maxRecDepth 100000 in
set_option maxHeartbeats 800000 in
theorem rest3 (r : ByteArray) (w : World) (ht : UTab w) (hr : r.size ≤ 1000000) : Calls Tryd.prog 26 #[.int .i64 3, .string r] w fun e w' => RestR (readK (3 :: bs r)) e ∧ Below w.heap.size w w' := by
  have HT := Lib.hid (ht.alloc (.cells #[.int .i64 0, .int .i64 0, .string ⟨#[]⟩] 30)); clear ht
  have HB0 := Lib.hid (Blk3.new w (.int .i64 0) (.int .i64 0) (.string ⟨#[]⟩) 30)
  have HS := Lib.hid (fun w => rdStr_any r w hr)
  have Hv := Lib.hid (readK_3 (bs r))
  have Hlen : Hid ((scan (bs r)).1.length ≤ 1000000) := by show _ ≤ _; have := scan_len (bs r); rw [bs_length] at this; omega
  generalize scan (bs r) = q at HS Hv Hlen
  obtain ⟨l, m, x⟩ := q
  by_cases hx : x = 0
  · subst hx
    rw [chk_read2] at Hv
    have HC := Lib.hid (fun w ht => chk3_any ⟨l.toArray⟩ w ht (by rw [ba_size l]; exact Hlen.out))
    replace HS : Hid (∀ w, Calls Tryd.prog 39 #[.string r] w fun e w' => e = .returned (.tuple #[.string ⟨l.toArray⟩, .int .i64 (m : Nat), .int .i64 0]) ∧ Below w.heap.size w w') := HS
    rw [bs_mk l] at HC
    generalize hT : (⟨l.toArray⟩ : ByteArray) = T at HS HC
    have HTl : Hid (bs T = l) := by show _ = _; rw [← hT, bs_mk l]
    clear hT
    generalize chkE 3 l = y at HC Hv
    by_cases hy : y = 0
    · subst hy
      rw [if_pos rfl] at Hv
      go_enter Tryd.func26, Tryd.ntmps26
      go_wp2_with fail
      refine (HS.out _).mono ?_
      rintro e w1 ⟨rfl, hb1⟩
      have HB1 := Lib.hid (HB0.out.below hb1 (by simp))
      have hlt1 : w.heap.size < w1.heap.size := by have := hb1.size; simp at this; omega
      have hb1' := below_new hb1
      have HT1 := Lib.hid (HT.out.below hb1 (Nat.le_refl _))
      clear hb1
      obtain ⟨c0, c1, c2, f0, f1, f2⟩ := HB1.out
      go_wp2_with fail
      refine (HC.out _ HT1.out).mono ?_
      rintro e w2 ⟨rfl, hb2⟩
      have HB2 := Lib.hid (HB1.out.below hb2 hlt1)
      have hlt2 : w.heap.size < w2.heap.size := Nat.lt_of_lt_of_le hlt1 hb2.size
      have hb2' := bthen hb1' hb2
      clear c0 c1 c2 f0 f1 f2
      obtain ⟨c0, c1, c2, f0, f1, f2⟩ := HB2.out
      go_wp2_with fail
      try simp only [Exit.inBlock, Exit.then]
      refine bodyPost_ret (results_v3 rfl _ _ rfl HB2.out.set3) rfl ?_
      exact ⟨⟨3, 0, T, m, by rw [Hv.out]; rfl, fun _ => by rw [Hv.out, HTl.out]; exact ⟨rfl, rfl⟩⟩, by go_grown⟩
    · rw [if_neg hy] at Hv
      go_enter Tryd.func26, Tryd.ntmps26
      go_wp2_with fail
      refine (HS.out _).mono ?_
      rintro e w1 ⟨rfl, hb1⟩
      have HB1 := Lib.hid (HB0.out.below hb1 (by simp))
      have hlt1 : w.heap.size < w1.heap.size := by have := hb1.size; simp at this; omega
      have hb1' := below_new hb1
      have HT1 := Lib.hid (HT.out.below hb1 (Nat.le_refl _))
      clear hb1
      obtain ⟨c0, c1, c2, f0, f1, f2⟩ := HB1.out
      go_wp2_with fail
      refine (HC.out _ HT1.out).mono ?_
      rintro e w2 ⟨rfl, hb2⟩
      have HB2 := Lib.hid (HB1.out.below hb2 hlt1)
      have hlt2 : w.heap.size < w2.heap.size := Nat.lt_of_lt_of_le hlt1 hb2.size
      have hb2' := bthen hb1' hb2
      clear c0 c1 c2 f0 f1 f2
      obtain ⟨c0, c1, c2, f0, f1, f2⟩ := HB2.out
      go_wp2_with fail
      try simp only [Exit.inBlock, Exit.then]
      refine bodyPost_ret (results_v3 rfl _ _ rfl HB2.out.set3) rfl ?_
      exact ⟨⟨3, 0, T, m, by rw [Hv.out]; rfl, fun h => by rw [Hv.out] at h; exact absurd h hy⟩, by go_grown⟩
  · rw [err_read2 _ _ hx] at Hv
    replace HS : Hid (∀ w, Calls Tryd.prog 39 #[.string r] w fun e w' => e = .returned (.tuple #[.string ⟨#[]⟩, .int .i64 0, .int .i64 (x : Nat)]) ∧ Below w.heap.size w w') := by
      have h := HS.out
      have e : strV (l, m, x) = .tuple #[.string ⟨#[]⟩, .int .i64 0, .int .i64 (x : Nat)] := by unfold strV; rw [if_neg hx]
      rw [e] at h; exact h
    have dx : ((x : Int) == 0) = false := by simp; omega
    go_enter Tryd.func26, Tryd.ntmps26
    go_wp2_with fail
    refine (HS.out _).mono ?_
    rintro e w1 ⟨rfl, hb1⟩
    have HB1 := Lib.hid (HB0.out.below hb1 (by simp))
    have hlt1 : w.heap.size < w1.heap.size := by have := hb1.size; simp at this; omega
    have hb1' := below_new hb1
    clear hb1
    obtain ⟨c0, c1, c2, f0, f1, f2⟩ := HB1.out
    go_wp2_with fail
    try simp only [Exit.inBlock, Exit.then]
    refine bodyPost_ret (results_v3 rfl _ _ rfl HB1.out.set3) rfl ?_
    exact ⟨⟨3, 0, ⟨#[]⟩, 0, by rw [Hv.out]; rfl, fun h => by rw [Hv.out] at h; exact absurd h hx⟩, by go_grown⟩
set_option maxRecDepth 100000 in
set_option maxHeartbeats 800000 in
theorem rest4 (r : ByteArray) (w : World) (ht : UTab w) (hr : r.size ≤ 1000000) : Calls Tryd.prog 26 #[.int .i64 4, .string r] w fun e w' => RestR (readK (4 :: bs r)) e ∧ Below w.heap.size w w' := by
  have HT := Lib.hid (ht.alloc (.cells #[.int .i64 0, .int .i64 0, .string ⟨#[]⟩] 30)); clear ht
  have HB0 := Lib.hid (Blk3.new w (.int .i64 0) (.int .i64 0) (.string ⟨#[]⟩) 30)
  have HS := Lib.hid (fun w => rdStr_any r w hr)
  have Hv := Lib.hid (readK_4 (bs r))
  have Hlen : Hid ((scan (bs r)).1.length ≤ 1000000) := by show _ ≤ _; have := scan_len (bs r); rw [bs_length] at this; omega
  generalize scan (bs r) = q at HS Hv Hlen
  obtain ⟨l, m, x⟩ := q
  by_cases hx : x = 0
  · subst hx
    rw [chk_read2] at Hv
    have HC := Lib.hid (fun w (_ : UTab w) => chk4_any ⟨l.toArray⟩ w)
    replace HS : Hid (∀ w, Calls Tryd.prog 39 #[.string r] w fun e w' => e = .returned (.tuple #[.string ⟨l.toArray⟩, .int .i64 (m : Nat), .int .i64 0]) ∧ Below w.heap.size w w') := HS
    rw [bs_mk l] at HC
    generalize hT : (⟨l.toArray⟩ : ByteArray) = T at HS HC
    have HTl : Hid (bs T = l) := by show _ = _; rw [← hT, bs_mk l]
    clear hT
    generalize chkE 4 l = y at HC Hv
    by_cases hy : y = 0
    · subst hy
      rw [if_pos rfl] at Hv
      go_enter Tryd.func26, Tryd.ntmps26
      go_wp2_with fail
      refine (HS.out _).mono ?_
      rintro e w1 ⟨rfl, hb1⟩
      have HB1 := Lib.hid (HB0.out.below hb1 (by simp))
      have hlt1 : w.heap.size < w1.heap.size := by have := hb1.size; simp at this; omega
      have hb1' := below_new hb1
      have HT1 := Lib.hid (HT.out.below hb1 (Nat.le_refl _))
      clear hb1
      obtain ⟨c0, c1, c2, f0, f1, f2⟩ := HB1.out
      go_wp2_with fail
      refine (HC.out _ HT1.out).mono ?_
      rintro e w2 ⟨rfl, hb2⟩
      have HB2 := Lib.hid (HB1.out.below hb2 hlt1)
      have hlt2 : w.heap.size < w2.heap.size := Nat.lt_of_lt_of_le hlt1 hb2.size
      have hb2' := bthen hb1' hb2
      clear c0 c1 c2 f0 f1 f2
      obtain ⟨c0, c1, c2, f0, f1, f2⟩ := HB2.out
      go_wp2_with fail
      try simp only [Exit.inBlock, Exit.then]
      refine bodyPost_ret (results_v3 rfl _ _ rfl HB2.out.set3) rfl ?_
      exact ⟨⟨4, 0, T, m, by rw [Hv.out]; rfl, fun _ => by rw [Hv.out, HTl.out]; exact ⟨rfl, rfl⟩⟩, by go_grown⟩
    · rw [if_neg hy] at Hv
      go_enter Tryd.func26, Tryd.ntmps26
      go_wp2_with fail
      refine (HS.out _).mono ?_
      rintro e w1 ⟨rfl, hb1⟩
      have HB1 := Lib.hid (HB0.out.below hb1 (by simp))
      have hlt1 : w.heap.size < w1.heap.size := by have := hb1.size; simp at this; omega
      have hb1' := below_new hb1
      have HT1 := Lib.hid (HT.out.below hb1 (Nat.le_refl _))
      clear hb1
      obtain ⟨c0, c1, c2, f0, f1, f2⟩ := HB1.out
      go_wp2_with fail
      refine (HC.out _ HT1.out).mono ?_
      rintro e w2 ⟨rfl, hb2⟩
      have HB2 := Lib.hid (HB1.out.below hb2 hlt1)
      have hlt2 : w.heap.size < w2.heap.size := Nat.lt_of_lt_of_le hlt1 hb2.size
      have hb2' := bthen hb1' hb2
      clear c0 c1 c2 f0 f1 f2
      obtain ⟨c0, c1, c2, f0, f1, f2⟩ := HB2.out
      go_wp2_with fail
      try simp only [Exit.inBlock, Exit.then]
      refine bodyPost_ret (results_v3 rfl _ _ rfl HB2.out.set3) rfl ?_
      exact ⟨⟨4, 0, T, m, by rw [Hv.out]; rfl, fun h => by rw [Hv.out] at h; exact absurd h hy⟩, by go_grown⟩
  · rw [err_read2 _ _ hx] at Hv
    replace HS : Hid (∀ w, Calls Tryd.prog 39 #[.string r] w fun e w' => e = .returned (.tuple #[.string ⟨#[]⟩, .int .i64 0, .int .i64 (x : Nat)]) ∧ Below w.heap.size w w') := by
      have h := HS.out
      have e : strV (l, m, x) = .tuple #[.string ⟨#[]⟩, .int .i64 0, .int .i64 (x : Nat)] := by unfold strV; rw [if_neg hx]
      rw [e] at h; exact h
    have dx : ((x : Int) == 0) = false := by simp; omega
    go_enter Tryd.func26, Tryd.ntmps26
    go_wp2_with fail
    refine (HS.out _).mono ?_
    rintro e w1 ⟨rfl, hb1⟩
    have HB1 := Lib.hid (HB0.out.below hb1 (by simp))
    have hlt1 : w.heap.size < w1.heap.size := by have := hb1.size; simp at this; omega
    have hb1' := below_new hb1
    clear hb1
    obtain ⟨c0, c1, c2, f0, f1, f2⟩ := HB1.out
    go_wp2_with fail
    try simp only [Exit.inBlock, Exit.then]
    refine bodyPost_ret (results_v3 rfl _ _ rfl HB1.out.set3) rfl ?_
    exact ⟨⟨4, 0, ⟨#[]⟩, 0, by rw [Hv.out]; rfl, fun h => by rw [Hv.out] at h; exact absurd h hx⟩, by go_grown⟩

theorem rest_any (c : UInt8) (r : ByteArray) (w : World) (ht : UTab w) (hr : r.size ≤ 1000000) : Calls Tryd.prog 26 #[.int .i64 (c.toNat : Nat), .string r] w fun e w' => RestR (readK (c :: bs r)) e ∧ Below w.heap.size w w' := by
  by_cases h0 : c.toNat = 0
  · obtain rfl : c = 0 := UInt8.toNat_inj.1 h0
    exact rest0 r w
  by_cases h1 : c.toNat = 1
  · obtain rfl : c = 1 := UInt8.toNat_inj.1 h1
    exact rest1 r w hr
  by_cases h2 : c.toNat = 2
  · obtain rfl : c = 2 := UInt8.toNat_inj.1 h2
    exact rest2 r w hr
  by_cases h3 : c.toNat = 3
  · obtain rfl : c = 3 := UInt8.toNat_inj.1 h3
    exact rest3 r w ht hr
  by_cases h4 : c.toNat = 4
  · obtain rfl : c = 4 := UInt8.toNat_inj.1 h4
    exact rest4 r w ht hr
  exact restBig c r w (by omega)
theorem readK_err (l : List UInt8) : (readK l).2.2 ≠ 0 → readK l = (noV, 0, (readK l).2.2) := by
  cases l with
  | nil => intro _; rfl
  | cons c r =>
    simp only [readK]
    by_cases h1 : 4 < c.toNat
    · rw [if_pos h1]; intro _; rfl
    rw [if_neg h1]
    by_cases h2 : c.toNat = 0
    · rw [if_pos h2]; intro h; exact absurd rfl h
    rw [if_neg h2]
    by_cases h3 : c.toNat = 1
    · rw [if_pos h3]
      by_cases h4 : r.length < 4
      · rw [if_pos h4]; intro _; rfl
      · rw [if_neg h4]; intro h; exact absurd rfl h
    rw [if_neg h3]
    by_cases h5 : c.toNat = 2
    · rw [if_pos h5]
      by_cases h4 : r.length < 8
      · rw [if_pos h4]; intro _; rfl
      · rw [if_neg h4]; intro h; exact absurd rfl h
    rw [if_neg h5]
    generalize scan r = q
    obtain ⟨l, m, x⟩ := q
    by_cases hx : x = 0
    · subst hx
      rw [chk_read2]
      by_cases hy : chkE c.toNat l = 0
      · rw [if_pos hy]; intro h; exact absurd rfl h
      · rw [if_neg hy]; intro _; rfl
    · rw [err_read2 _ _ hx]; intro _; rfl
theorem readK_le (l : List UInt8) : (readK l).2.1 ≤ l.length := by
  cases l with
  | nil => exact Nat.le_refl 0
  | cons c r =>
    simp only [readK]
    by_cases h1 : 4 < c.toNat
    · rw [if_pos h1]; exact Nat.zero_le _
    rw [if_neg h1]
    by_cases h2 : c.toNat = 0
    · rw [if_pos h2]; simp
    rw [if_neg h2]
    by_cases h3 : c.toNat = 1
    · rw [if_pos h3]
      by_cases h4 : r.length < 4
      · rw [if_pos h4]; exact Nat.zero_le _
      · rw [if_neg h4]; simp; omega
    rw [if_neg h3]
    by_cases h5 : c.toNat = 2
    · rw [if_pos h5]
      by_cases h4 : r.length < 8
      · rw [if_pos h4]; exact Nat.zero_le _
      · rw [if_neg h4]; simp; omega
    rw [if_neg h5]
    have hs := scan_le r
    generalize scan r = q at hs
    obtain ⟨l, m, x⟩ := q
    by_cases hx : x = 0
    · subst hx
      rw [chk_read2]
      by_cases hy : chkE c.toNat l = 0
      · rw [if_pos hy]; simp at hs ⊢; omega
      · rw [if_neg hy]; exact Nat.zero_le _
    · rw [err_read2 _ _ hx]; exact Nat.zero_le _
/-- what Read returns -/
def skV (q : Vl × Nat × Nat) : Value := .tuple #[VV q.1.1 q.1.2.1 ⟨q.1.2.2.toArray⟩, .int .i64 (q.2.1 : Nat), .int .i64 (q.2.2 : Nat)]
theorem skV_err {l : List UInt8} (h : (readK l).2.2 ≠ 0) : skV (readK l) = .tuple #[VV 0 0 ⟨#[]⟩, .int .i64 0, .int .i64 ((readK l).2.2 : Nat)] := by
  generalize hx : (readK l).2.2 = x at *
  rw [readK_err l (by rw [hx]; exact h), hx]; rfl
theorem skV_ok {l : List UInt8} {k n : Int} {t : ByteArray} {sz : Nat} (h0 : (readK l).2.2 = 0) (h : (readK l).1 = (k, n, bs t) ∧ (readK l).2.1 = sz + 1) : skV (readK l) = .tuple #[VV k n t, .int .i64 (1 + (sz : Int)), .int .i64 0] := by
  generalize readK l = q at *
  obtain ⟨v, m, x⟩ := q
  obtain ⟨h1, h2⟩ := h
  simp only at h0 h1 h2
  subst h0 h1 h2
  unfold skV
  rw [show ((sz + 1 : Nat) : Int) = 1 + (sz : Int) by omega]
  have e : (⟨(bs t).toArray⟩ : ByteArray) = t := bs_eq (bs_mk _)
  simp only [e]; rfl
set_option maxRecDepth 100000 in
set_option maxHeartbeats 800000 in
theorem sread_any (s : ByteArray) (w : World) (ht : UTab w) (hs : s.size ≤ 1000000) : Calls Tryd.prog 13 #[.string s] w fun e w' => e = .returned (skV (readK (bs s))) ∧ Below w.heap.size w w' := by
  by_cases h0 : 0 < s.size
  · obtain ⟨t, hcons, htl, _⟩ := bs_cons s h0
    have hne := ne_empty s h0
    have hI : (1 : Int) ≤ (s.size : Int) := by omega
    have Hr : Hid (bs (s.extract 1 s.size) = t) := by show _ = _; rw [bs_rest, hcons]; rfl
    have HC := Lib.hid (fun w ht => rest_any s[0] (s.extract 1 s.size) w ht (by rw [size_of' Hr.out]; omega))
    rw [Hr.out, ← hcons] at HC
    obtain ⟨x, hxe⟩ : ∃ x, (readK (bs s)).2.2 = x := ⟨_, rfl⟩
    have HC2 : Hid (∀ w, UTab w → Calls Tryd.prog 26 #[.int .i64 (s[0].toNat : Nat), .string (s.extract 1 s.size)] w fun e w' => ∃ (k n : Int) (t : ByteArray) (sz : Nat), e = .returned (.tuple #[VV k n t, .int .i64 sz, .int .i64 (x : Nat)]) ∧
        (x = 0 → skV (readK (bs s)) = .tuple #[VV k n t, .int .i64 (1 + (sz : Int)), .int .i64 0]) ∧ (x ≠ 0 → skV (readK (bs s)) = .tuple #[VV 0 0 ⟨#[]⟩, .int .i64 0, .int .i64 (x : Nat)]) ∧ (x = 0 → sz ≤ 1000000) ∧ Below w.heap.size w w') := fun w ht => by
      refine (HC.out w ht).mono ?_
      rintro e w' ⟨⟨k, n, t, sz, rfl, hq⟩, hb⟩
      refine ⟨k, n, t, sz, by rw [hxe], fun h => skV_ok (by rw [hxe]; exact h) (hq (by rw [hxe]; exact h)), fun h => ?_, fun h => ?_, hb⟩
      · rw [skV_err (by rw [hxe]; exact h), hxe]
      · have h1 := readK_le (bs s)
        rw [(hq (by rw [hxe]; exact h)).2, bs_length] at h1
        omega
    have hw2 : IntKind.i64.wrap (s[0].toNat : Int) = (s[0].toNat : Int) := by have := s[0].toNat_lt; rw [wrap_i64_eq]; omega
    have hw : wrap64 (s[0].toNat : Int) = (s[0].toNat : Int) := by have := s[0].toNat_lt; rw [wrap64_eq]; omega
    generalize skV (readK (bs s)) = R at HC2
    clear hxe HC
    have HB0 := Lib.hid (Blk3.new w (.int .i64 0) (.int .i64 0) (.string ⟨#[]⟩) 30)
    have HT := Lib.hid (ht.alloc (.cells #[.int .i64 0, .int .i64 0, .string ⟨#[]⟩] 30))
    clear ht hcons htl Hr
    go_enter Tryd.func13, Tryd.ntmps13
    go_wp2_with fail
    have HBd : Hid (Blk3 (w.alloc (.cells #[.int .i64 0, .int .i64 0, .string ⟨#[]⟩] 30)).drew w.heap.size (.int .i64 0) (.int .i64 0) (.string ⟨#[]⟩)) := HB0.out.below (B := w.heap.size + 1) ((Below.refl _ _).drew) (by omega)
    have hlt : w.heap.size < (w.alloc (.cells #[.int .i64 0, .int .i64 0, .string ⟨#[]⟩] 30)).drew.heap.size := by simp
    have hbd : Below w.heap.size w (w.alloc (.cells #[.int .i64 0, .int .i64 0, .string ⟨#[]⟩] 30)).drew := by go_grown
    have HTd : Hid (UTab (w.alloc (.cells #[.int .i64 0, .int .i64 0, .string ⟨#[]⟩] 30)).drew) := HT.out.drew
    go_region_with (go_at_call 26; refine (HC2.out _ HTd.out).mono ?_; rintro e w1 ⟨k, n, t, sz, rfl, hok, hno, hsz, hb1⟩; have HB2 := Lib.hid (HBd.out.below hb1 hlt); have hb1' := hbd.trans (Below.mono hb1 (Nat.le_of_lt hlt)); have hlt2 : w.heap.size < w1.heap.size := Nat.lt_of_lt_of_le hlt hb1.size; clear hb1; obtain ⟨c0, c1, c2, f0, f1, f2⟩ := HB2.out)
    by_cases hx : x = 0
    · have Hok := Lib.hid (hok hx)
      have hsz' : sz ≤ 1000000 := hsz hx
      clear hok hno hsz HC2
      subst hx
      go_wp2_with fail
      try simp only [Exit.inBlock, Exit.then]
      refine bodyPost_ret (results_v3 rfl _ _ rfl HB2.out.set3.set3) rfl ?_
      exact ⟨by rw [Hok.out]; rfl, by go_grown⟩
    · have Hno := Lib.hid (hno hx)
      have dx : ((x : Int) == 0) = false := by simp; omega
      clear hok hno hsz hx HC2
      go_wp2_with fail
      try simp only [Exit.inBlock, Exit.then]
      refine bodyPost_ret (results_v3 rfl _ _ rfl HB2.out.set3.set3) rfl ?_
      exact ⟨by rw [Hno.out]; rfl, by go_grown⟩
  · obtain rfl : s = ⟨#[]⟩ := is_empty s (by omega)
    clear ht h0 hs
    go_enter Tryd.func13, Tryd.ntmps13
    go_wp2_with fail
    go_returns
    exact ⟨rfl, by go_grown⟩
end Go.Proofs.YtbbdmphclnnejaaDoor
