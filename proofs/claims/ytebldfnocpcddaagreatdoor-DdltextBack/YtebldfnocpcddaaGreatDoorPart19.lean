/-
  Texts that the proof needs, one behind the other: TypRefReadC.
-/
import Derived.Test.YtebldfnocpcddaaGreatDoorPart11
import Derived.Test.YtebldfnocpcddaaGreatDoorPart12

/-
  Contracts of the document's own Read and Parse of a type's text.
-/
namespace Go.Proofs.YtebldfnocpcddaaGreatDoor
open Go.RowKit

theorem readT_a {l : List UInt8} {c : Nat} (h : kindL (l.take (rdN l)) = c) (hc : c = 3 ∨ c = 4) (h1 : l[rdN l]? ≠ some 40) : readT l = ((0, 0), 0, 5) := by
  rw [readT_s h hc (rmaxW_no (by rw [List.getElem?_drop, Nat.add_zero]; exact h1))]
  rfl
def readT3 (l : List UInt8) (c n : Nat) (z : Int) (k e : Nat) : (Int × Int) × Nat × Nat :=
  if e = 0 then (if l[n + 1 + k]? = some 41 then (if maxK z = true then (((c : Int), z), n + 1 + k + 1, 0) else ((0, 0), 0, 10)) else ((0, 0), 0, 5)) else ((0, 0), 0, e)
theorem readT_b {l : List UInt8} {c : Nat} {z : Int} {k e : Nat} (h : kindL (l.take (rdN l)) = c) (hc : c = 3 ∨ c = 4) (h1 : l[rdN l]? = some 40) (hn : numW (l.drop (rdN l + 1)) = (z, k, e)) : readT l = readT3 l c (rdN l) z k e := by
  have h40 : (l.drop (rdN l))[0]? = some 40 := by rw [List.getElem?_drop, Nat.add_zero]; exact h1
  have hn' : numW ((l.drop (rdN l)).drop 1) = (z, k, e) := by rw [List.drop_drop]; exact hn
  have hat : (l.drop (rdN l))[1 + k]? = l[rdN l + 1 + k]? := by rw [List.getElem?_drop]; congr 1; omega
  rw [readT_s (m := (rmax2 (l.drop (rdN l)) z k e).1) (k := (rmax2 (l.drop (rdN l)) z k e).2.1) (e := (rmax2 (l.drop (rdN l)) z k e).2.2) h hc (by rw [rmaxW_yes h40 hn'])]
  unfold readT3 readT2 rmax2
  rw [hat]
  by_cases he : e = 0
  · rw [if_pos he, if_pos he]
    by_cases h41 : l[rdN l + 1 + k]? = some 41
    · rw [if_pos h41, if_pos h41]
      by_cases hm : maxK z = true
      · rw [if_pos hm, if_pos hm, if_pos rfl, show rdN l + (k + 2) = rdN l + 1 + k + 1 by omega]
      · rw [if_neg hm, if_neg hm]; rfl
    · rw [if_neg h41, if_neg h41]; rfl
  · rw [if_neg he, if_neg he, if_neg he]
theorem maxK_no {z : Int} (h : maxK z = false) : (decide (z < 1) = true) ∨ (decide (z < 1) = false ∧ decide (120 < z) = true) := by
  by_cases h1 : z < 1
  · exact .inl (by simpa using h1)
  · refine .inr ⟨by simpa using h1, ?_⟩
    by_cases h2 : 120 < z
    · simpa using h2
    · have : maxK z = true := (maxK_iff z).2 ⟨by omega, by omega⟩
      rw [this] at h; cases h
theorem maxK_yes {z : Int} (h : maxK z = true) : decide (z < 1) = false ∧ decide (120 < z) = false := by
  rw [maxK_iff] at h
  exact ⟨by simp; omega, by simp; omega⟩
theorem name_beq {s : ByteArray} {n : Nat} {l r : List UInt8} (h : (bs s).take n = l) (b : Bool) (hb : (l == r) = b) : ((s.extract 0 n).toList == r) = b := by
  rw [ByteArray.toList_eq]
  show (bs (s.extract 0 n) == r) = b
  rw [bs_front, h]; exact hb
set_option maxRecDepth 100000 in
set_option maxHeartbeats 6400000 in
theorem trread_any (s : ByteArray) (w : World) (hs : s.size ≤ 1000000) : Calls Tryz.prog 87 #[.string s] w fun e w' => e = .returned (trdV (readT (bs s))) ∧ Below w.heap.size w w' := by
  have H1 := Lib.hid (fun w => nrread_any s w hs)
  have hle := rdN_le (bs s)
  rw [bs_length] at hle
  have h1 := readT_1 (l := bs s)
  have h2 := readT_2 (l := bs s)
  have h0 := readT_0 (l := bs s)
  have h3 := fun c => readT_a (l := bs s) (c := c)
  have h4 := fun c z k e => readT_b (l := bs s) (c := c) (z := z) (k := k) (e := e)
  have hc := kindL_cases ((bs s).take (rdN (bs s)))
  generalize kindL ((bs s).take (rdN (bs s))) = c at h1 h2 h0 h3 h4 hc
  generalize rdN (bs s) = n at H1 hle h1 h2 h0 h3 h4 hc
  have i0 : (0 : Int) ≤ (n : Int) := by omega
  have i1 : (n : Int) ≤ (s.size : Int) := by omega
  rcases hc with ⟨hq, rfl⟩ | ⟨hq, rfl⟩ | ⟨hq, rfl⟩ | ⟨hq, rfl⟩ | ⟨q1, q2, q3, q4, rfl⟩
  · have Hv := Lib.hid (h1 rfl)
    have f1 : ((s.extract 0 n).toList == [105, 110, 116]) = true := name_beq hq true (by decide)
    clear h0 h1 h2 h3 h4 hq hle
    go_enter Tryz.func87, Tryz.ntmps87
    go_wp2_with fail
    refine (H1.out _).mono ?_
    rintro e w1 ⟨rfl, rfl⟩
    go_wp2_with fail
    go_returns
    exact ⟨by rw [Hv.out]; rfl, by go_grown⟩
  · have Hv := Lib.hid (h2 rfl)
    have f1 : ((s.extract 0 n).toList == [105, 110, 116]) = false := name_beq hq false (by decide)
    have f2 : ((s.extract 0 n).toList == [108, 111, 110, 103]) = true := name_beq hq true (by decide)
    clear h0 h1 h2 h3 h4 hq hle
    go_enter Tryz.func87, Tryz.ntmps87
    go_wp2_with fail
    refine (H1.out _).mono ?_
    rintro e w1 ⟨rfl, rfl⟩
    go_wp2_with fail
    go_returns
    exact ⟨by rw [Hv.out]; rfl, by go_grown⟩
  · have f1 : ((s.extract 0 n).toList == [105, 110, 116]) = false := name_beq hq false (by decide)
    have f2 : ((s.extract 0 n).toList == [108, 111, 110, 103]) = false := name_beq hq false (by decide)
    have f3 : ((s.extract 0 n).toList == [116, 101, 120, 116]) = true := name_beq hq true (by decide)
    clear h0 h1 h2
    by_cases hn : n < s.size
    · have hat := bs_at s n hn
      have hn' : ¬ s.size ≤ n := by omega
      by_cases h40 : s[n].toNat = 40
      · have d40 : ((s[n].toNat : Int) != 40) = false := by simp; omega
        have e40 : (bs s)[n]? = some 40 := by rw [hat]; exact congrArg some (u8_is (by decide) h40)
        have i2 : (n : Int) + 1 ≤ (s.size : Int) := by omega
        have HN := Lib.hid (fun w => rnumber_any (s.extract (n + 1) s.size) w (by simp; omega))
        obtain ⟨⟨z, k, e⟩, hnum⟩ : ∃ r, numW ((bs s).drop (n + 1)) = r := ⟨_, rfl⟩
        have hV : numV (bs (s.extract (n + 1) s.size)) = .tuple #[.int .i64 z, .int .i64 (k : Nat), .int .i64 (e : Nat)] := by
          unfold numV
          rw [bs_rest, hnum]
        rw [hV] at HN
        have Hv := Lib.hid (h4 3 z k e rfl (by omega) e40 hnum)
        clear hV h3 h4 hq h40 e40
        unfold readT3 at Hv
        by_cases he : e = 0
        · subst he
          rw [if_pos rfl] at Hv
          have hk : k ≤ s.size - (n + 1) := by
            have := (num_back hnum).2.2.2
            rw [List.length_drop, bs_length] at this
            exact this
          obtain ⟨E, hE⟩ : ∃ E, E = (n + 1) + k := ⟨_, rfl⟩
          have iw2 : wrap64 (((n + 1) : Int) + (k : Int)) = (E : Int) := by subst hE; go_arith
          have hE' : n + 1 + k = E := by omega
          rw [hE'] at Hv
          clear hnum hE'
          by_cases hEs : E < s.size
          · have hat2 := bs_at s E hEs
            have hEs' : ¬ s.size ≤ E := by omega
            have j0 : (0 : Int) ≤ (E : Int) := by omega
            have j1 : (E : Int) < (s.size : Int) := by omega
            have iw3 : wrap64 ((E : Int) + 1) = ((E + 1 : Nat) : Int) := by go_arith
            by_cases h41 : s[E].toNat = 41
            · have d41 : ((s[E].toNat : Int) != 41) = false := by simp; omega
              rw [if_pos (show (bs s)[E]? = some 41 by rw [hat2]; exact congrArg some (u8_is (by decide) h41))] at Hv
              clear h41 hat hat2 hle hk hE
              cases hz : maxK z
              · rw [hz, if_neg (by simp)] at Hv
                rcases maxK_no hz with q1 | ⟨q1, q2⟩
                · clear hz
                  go_enter Tryz.func87, Tryz.ntmps87
                  go_wp2_with fail
                  refine (H1.out _).mono ?_
                  rintro e w1 ⟨rfl, rfl⟩
                  go_wp2_with fail
                  refine (HN.out _).mono ?_
                  rintro e w1 ⟨rfl, hd⟩
                  have HB := Lib.hid ((Bx.new w _ _ _ _ _ _).step (hd.below _))
                  clear hd
                  obtain ⟨⟨c0, c1, g0, g1⟩, ⟨d0, d1, _⟩, _, hb'⟩ := HB.out
                  go_wp2_with fail
                  try simp only [Exit.inBlock, Exit.then]
                  refine bodyPost_ret (results_t3 rfl _ _ rfl HB.out.1.set2) rfl ?_
                  exact ⟨by rw [Hv.out]; rfl, by go_grown⟩
                · clear hz
                  go_enter Tryz.func87, Tryz.ntmps87
                  go_wp2_with fail
                  refine (H1.out _).mono ?_
                  rintro e w1 ⟨rfl, rfl⟩
                  go_wp2_with fail
                  refine (HN.out _).mono ?_
                  rintro e w1 ⟨rfl, hd⟩
                  have HB := Lib.hid ((Bx.new w _ _ _ _ _ _).step (hd.below _))
                  clear hd
                  obtain ⟨⟨c0, c1, g0, g1⟩, ⟨d0, d1, _⟩, _, hb'⟩ := HB.out
                  go_wp2_with fail
                  try simp only [Exit.inBlock, Exit.then]
                  refine bodyPost_ret (results_t3 rfl _ _ rfl HB.out.1.set2) rfl ?_
                  exact ⟨by rw [Hv.out]; rfl, by go_grown⟩
              · rw [hz, if_pos rfl] at Hv
                obtain ⟨q1, q2⟩ := maxK_yes hz
                clear hz
                go_enter Tryz.func87, Tryz.ntmps87
                go_wp2_with fail
                refine (H1.out _).mono ?_
                rintro e w1 ⟨rfl, rfl⟩
                go_wp2_with fail
                refine (HN.out _).mono ?_
                rintro e w1 ⟨rfl, hd⟩
                have HB := Lib.hid ((Bx.new w _ _ _ _ _ _).step (hd.below _))
                clear hd
                obtain ⟨⟨c0, c1, g0, g1⟩, ⟨d0, d1, _⟩, _, hb'⟩ := HB.out
                go_wp2_with fail
                try simp only [Exit.inBlock, Exit.then]
                refine bodyPost_ret (results_t3 rfl _ _ rfl HB.out.1.set2) rfl ?_
                exact ⟨by rw [Hv.out]; rfl, by go_grown⟩
            · have d41 : ((s[E].toNat : Int) != 41) = true := by simp; omega
              rw [if_neg (show ¬ (bs s)[E]? = some 41 by rw [hat2]; exact fun h => h41 (by rw [Option.some.inj h]; rfl))] at Hv
              clear h41 hat hat2 hle hk hE
              go_enter Tryz.func87, Tryz.ntmps87
              go_wp2_with fail
              refine (H1.out _).mono ?_
              rintro e w1 ⟨rfl, rfl⟩
              go_wp2_with fail
              refine (HN.out _).mono ?_
              rintro e w1 ⟨rfl, hd⟩
              have HB := Lib.hid ((Bx.new w _ _ _ _ _ _).step (hd.below _))
              clear hd
              obtain ⟨⟨c0, c1, g0, g1⟩, ⟨d0, d1, _⟩, _, hb'⟩ := HB.out
              go_wp2_with fail
              try simp only [Exit.inBlock, Exit.then]
              refine bodyPost_ret (results_t3 rfl _ _ rfl HB.out.1.set2) rfl ?_
              exact ⟨by rw [Hv.out]; rfl, by go_grown⟩
          · rw [if_neg (show ¬ (bs s)[E]? = some 41 by rw [List.getElem?_eq_none (by rw [bs_length]; omega)]; simp)] at Hv
            have hEs' : s.size ≤ E := by omega
            clear hat hle hk hE
            go_enter Tryz.func87, Tryz.ntmps87
            go_wp2_with fail
            refine (H1.out _).mono ?_
            rintro e w1 ⟨rfl, rfl⟩
            go_wp2_with fail
            refine (HN.out _).mono ?_
            rintro e w1 ⟨rfl, hd⟩
            have HB := Lib.hid ((Bx.new w _ _ _ _ _ _).step (hd.below _))
            clear hd
            obtain ⟨⟨c0, c1, g0, g1⟩, ⟨d0, d1, _⟩, _, hb'⟩ := HB.out
            go_wp2_with fail
            try simp only [Exit.inBlock, Exit.then]
            refine bodyPost_ret (results_t3 rfl _ _ rfl HB.out.1.set2) rfl ?_
            exact ⟨by rw [Hv.out]; rfl, by go_grown⟩
        · rw [if_neg he] at Hv
          have d : ((e : Int) != 0) = true := by simp; omega
          clear he hnum hat hle
          go_enter Tryz.func87, Tryz.ntmps87
          go_wp2_with fail
          refine (H1.out _).mono ?_
          rintro e w1 ⟨rfl, rfl⟩
          go_wp2_with fail
          refine (HN.out _).mono ?_
          rintro e w1 ⟨rfl, hd⟩
          have HB := Lib.hid ((Bx.new w _ _ _ _ _ _).step (hd.below _))
          clear hd
          obtain ⟨⟨c0, c1, g0, g1⟩, ⟨d0, d1, _⟩, _, hb'⟩ := HB.out
          go_wp2_with fail
          try simp only [Exit.inBlock, Exit.then]
          refine bodyPost_ret (results_t3 rfl _ _ rfl HB.out.1.set2) rfl ?_
          exact ⟨by rw [Hv.out]; rfl, by go_grown⟩
      · have d40 : ((s[n].toNat : Int) != 40) = true := by simp; omega
        have Hv := Lib.hid (h3 3 rfl (by omega) (by rw [hat]; exact fun h => h40 (by rw [Option.some.inj h]; rfl)))
        clear h3 h4 hq h40 hat hle
        go_enter Tryz.func87, Tryz.ntmps87
        go_wp2_with fail
        refine (H1.out _).mono ?_
        rintro e w1 ⟨rfl, rfl⟩
        go_wp2_with fail
        go_returns
        exact ⟨by rw [Hv.out]; rfl, by go_grown⟩
    · have Hv := Lib.hid (h3 3 rfl (by omega) (by rw [List.getElem?_eq_none (by rw [bs_length]; omega)]; simp))
      have hn' : s.size ≤ n := by omega
      clear h3 h4 hq hle
      go_enter Tryz.func87, Tryz.ntmps87
      go_wp2_with fail
      refine (H1.out _).mono ?_
      rintro e w1 ⟨rfl, rfl⟩
      go_wp2_with fail
      go_returns
      exact ⟨by rw [Hv.out]; rfl, by go_grown⟩
  · have f1 : ((s.extract 0 n).toList == [105, 110, 116]) = false := name_beq hq false (by decide)
    have f2 : ((s.extract 0 n).toList == [108, 111, 110, 103]) = false := name_beq hq false (by decide)
    have f3 : ((s.extract 0 n).toList == [116, 101, 120, 116]) = false := name_beq hq false (by decide)
    have f4 : ((s.extract 0 n).toList == [98, 121, 116, 101, 115]) = true := name_beq hq true (by decide)
    clear h0 h1 h2
    by_cases hn : n < s.size
    · have hat := bs_at s n hn
      have hn' : ¬ s.size ≤ n := by omega
      by_cases h40 : s[n].toNat = 40
      · have d40 : ((s[n].toNat : Int) != 40) = false := by simp; omega
        have e40 : (bs s)[n]? = some 40 := by rw [hat]; exact congrArg some (u8_is (by decide) h40)
        have i2 : (n : Int) + 1 ≤ (s.size : Int) := by omega
        have HN := Lib.hid (fun w => rnumber_any (s.extract (n + 1) s.size) w (by simp; omega))
        obtain ⟨⟨z, k, e⟩, hnum⟩ : ∃ r, numW ((bs s).drop (n + 1)) = r := ⟨_, rfl⟩
        have hV : numV (bs (s.extract (n + 1) s.size)) = .tuple #[.int .i64 z, .int .i64 (k : Nat), .int .i64 (e : Nat)] := by
          unfold numV
          rw [bs_rest, hnum]
        rw [hV] at HN
        have Hv := Lib.hid (h4 4 z k e rfl (by omega) e40 hnum)
        clear hV h3 h4 hq h40 e40
        unfold readT3 at Hv
        by_cases he : e = 0
        · subst he
          rw [if_pos rfl] at Hv
          have hk : k ≤ s.size - (n + 1) := by
            have := (num_back hnum).2.2.2
            rw [List.length_drop, bs_length] at this
            exact this
          obtain ⟨E, hE⟩ : ∃ E, E = (n + 1) + k := ⟨_, rfl⟩
          have iw2 : wrap64 (((n + 1) : Int) + (k : Int)) = (E : Int) := by subst hE; go_arith
          have hE' : n + 1 + k = E := by omega
          rw [hE'] at Hv
          clear hnum hE'
          by_cases hEs : E < s.size
          · have hat2 := bs_at s E hEs
            have hEs' : ¬ s.size ≤ E := by omega
            have j0 : (0 : Int) ≤ (E : Int) := by omega
            have j1 : (E : Int) < (s.size : Int) := by omega
            have iw3 : wrap64 ((E : Int) + 1) = ((E + 1 : Nat) : Int) := by go_arith
            by_cases h41 : s[E].toNat = 41
            · have d41 : ((s[E].toNat : Int) != 41) = false := by simp; omega
              rw [if_pos (show (bs s)[E]? = some 41 by rw [hat2]; exact congrArg some (u8_is (by decide) h41))] at Hv
              clear h41 hat hat2 hle hk hE
              cases hz : maxK z
              · rw [hz, if_neg (by simp)] at Hv
                rcases maxK_no hz with q1 | ⟨q1, q2⟩
                · clear hz
                  go_enter Tryz.func87, Tryz.ntmps87
                  go_wp2_with fail
                  refine (H1.out _).mono ?_
                  rintro e w1 ⟨rfl, rfl⟩
                  go_wp2_with fail
                  refine (HN.out _).mono ?_
                  rintro e w1 ⟨rfl, hd⟩
                  have HB := Lib.hid ((Bx.new w _ _ _ _ _ _).step (hd.below _))
                  clear hd
                  obtain ⟨⟨c0, c1, g0, g1⟩, ⟨d0, d1, _⟩, _, hb'⟩ := HB.out
                  go_wp2_with fail
                  try simp only [Exit.inBlock, Exit.then]
                  refine bodyPost_ret (results_t3 rfl _ _ rfl HB.out.1.set2) rfl ?_
                  exact ⟨by rw [Hv.out]; rfl, by go_grown⟩
                · clear hz
                  go_enter Tryz.func87, Tryz.ntmps87
                  go_wp2_with fail
                  refine (H1.out _).mono ?_
                  rintro e w1 ⟨rfl, rfl⟩
                  go_wp2_with fail
                  refine (HN.out _).mono ?_
                  rintro e w1 ⟨rfl, hd⟩
                  have HB := Lib.hid ((Bx.new w _ _ _ _ _ _).step (hd.below _))
                  clear hd
                  obtain ⟨⟨c0, c1, g0, g1⟩, ⟨d0, d1, _⟩, _, hb'⟩ := HB.out
                  go_wp2_with fail
                  try simp only [Exit.inBlock, Exit.then]
                  refine bodyPost_ret (results_t3 rfl _ _ rfl HB.out.1.set2) rfl ?_
                  exact ⟨by rw [Hv.out]; rfl, by go_grown⟩
              · rw [hz, if_pos rfl] at Hv
                obtain ⟨q1, q2⟩ := maxK_yes hz
                clear hz
                go_enter Tryz.func87, Tryz.ntmps87
                go_wp2_with fail
                refine (H1.out _).mono ?_
                rintro e w1 ⟨rfl, rfl⟩
                go_wp2_with fail
                refine (HN.out _).mono ?_
                rintro e w1 ⟨rfl, hd⟩
                have HB := Lib.hid ((Bx.new w _ _ _ _ _ _).step (hd.below _))
                clear hd
                obtain ⟨⟨c0, c1, g0, g1⟩, ⟨d0, d1, _⟩, _, hb'⟩ := HB.out
                go_wp2_with fail
                try simp only [Exit.inBlock, Exit.then]
                refine bodyPost_ret (results_t3 rfl _ _ rfl HB.out.1.set2) rfl ?_
                exact ⟨by rw [Hv.out]; rfl, by go_grown⟩
            · have d41 : ((s[E].toNat : Int) != 41) = true := by simp; omega
              rw [if_neg (show ¬ (bs s)[E]? = some 41 by rw [hat2]; exact fun h => h41 (by rw [Option.some.inj h]; rfl))] at Hv
              clear h41 hat hat2 hle hk hE
              go_enter Tryz.func87, Tryz.ntmps87
              go_wp2_with fail
              refine (H1.out _).mono ?_
              rintro e w1 ⟨rfl, rfl⟩
              go_wp2_with fail
              refine (HN.out _).mono ?_
              rintro e w1 ⟨rfl, hd⟩
              have HB := Lib.hid ((Bx.new w _ _ _ _ _ _).step (hd.below _))
              clear hd
              obtain ⟨⟨c0, c1, g0, g1⟩, ⟨d0, d1, _⟩, _, hb'⟩ := HB.out
              go_wp2_with fail
              try simp only [Exit.inBlock, Exit.then]
              refine bodyPost_ret (results_t3 rfl _ _ rfl HB.out.1.set2) rfl ?_
              exact ⟨by rw [Hv.out]; rfl, by go_grown⟩
          · rw [if_neg (show ¬ (bs s)[E]? = some 41 by rw [List.getElem?_eq_none (by rw [bs_length]; omega)]; simp)] at Hv
            have hEs' : s.size ≤ E := by omega
            clear hat hle hk hE
            go_enter Tryz.func87, Tryz.ntmps87
            go_wp2_with fail
            refine (H1.out _).mono ?_
            rintro e w1 ⟨rfl, rfl⟩
            go_wp2_with fail
            refine (HN.out _).mono ?_
            rintro e w1 ⟨rfl, hd⟩
            have HB := Lib.hid ((Bx.new w _ _ _ _ _ _).step (hd.below _))
            clear hd
            obtain ⟨⟨c0, c1, g0, g1⟩, ⟨d0, d1, _⟩, _, hb'⟩ := HB.out
            go_wp2_with fail
            try simp only [Exit.inBlock, Exit.then]
            refine bodyPost_ret (results_t3 rfl _ _ rfl HB.out.1.set2) rfl ?_
            exact ⟨by rw [Hv.out]; rfl, by go_grown⟩
        · rw [if_neg he] at Hv
          have d : ((e : Int) != 0) = true := by simp; omega
          clear he hnum hat hle
          go_enter Tryz.func87, Tryz.ntmps87
          go_wp2_with fail
          refine (H1.out _).mono ?_
          rintro e w1 ⟨rfl, rfl⟩
          go_wp2_with fail
          refine (HN.out _).mono ?_
          rintro e w1 ⟨rfl, hd⟩
          have HB := Lib.hid ((Bx.new w _ _ _ _ _ _).step (hd.below _))
          clear hd
          obtain ⟨⟨c0, c1, g0, g1⟩, ⟨d0, d1, _⟩, _, hb'⟩ := HB.out
          go_wp2_with fail
          try simp only [Exit.inBlock, Exit.then]
          refine bodyPost_ret (results_t3 rfl _ _ rfl HB.out.1.set2) rfl ?_
          exact ⟨by rw [Hv.out]; rfl, by go_grown⟩
      · have d40 : ((s[n].toNat : Int) != 40) = true := by simp; omega
        have Hv := Lib.hid (h3 4 rfl (by omega) (by rw [hat]; exact fun h => h40 (by rw [Option.some.inj h]; rfl)))
        clear h3 h4 hq h40 hat hle
        go_enter Tryz.func87, Tryz.ntmps87
        go_wp2_with fail
        refine (H1.out _).mono ?_
        rintro e w1 ⟨rfl, rfl⟩
        go_wp2_with fail
        go_returns
        exact ⟨by rw [Hv.out]; rfl, by go_grown⟩
    · have Hv := Lib.hid (h3 4 rfl (by omega) (by rw [List.getElem?_eq_none (by rw [bs_length]; omega)]; simp))
      have hn' : s.size ≤ n := by omega
      clear h3 h4 hq hle
      go_enter Tryz.func87, Tryz.ntmps87
      go_wp2_with fail
      refine (H1.out _).mono ?_
      rintro e w1 ⟨rfl, rfl⟩
      go_wp2_with fail
      go_returns
      exact ⟨by rw [Hv.out]; rfl, by go_grown⟩
  · have Hv := Lib.hid (h0 rfl)
    have f1 : ((s.extract 0 n).toList == [105, 110, 116]) = false := name_beq rfl false (beq_eq_false_iff_ne.2 q1)
    have f2 : ((s.extract 0 n).toList == [108, 111, 110, 103]) = false := name_beq rfl false (beq_eq_false_iff_ne.2 q2)
    have f3 : ((s.extract 0 n).toList == [116, 101, 120, 116]) = false := name_beq rfl false (beq_eq_false_iff_ne.2 q3)
    have f4 : ((s.extract 0 n).toList == [98, 121, 116, 101, 115]) = false := name_beq rfl false (beq_eq_false_iff_ne.2 q4)
    clear h0 h1 h2 h3 h4 hle q1 q2 q3 q4
    go_enter Tryz.func87, Tryz.ntmps87
    go_wp2_with fail
    refine (H1.out _).mono ?_
    rintro e w1 ⟨rfl, rfl⟩
    go_wp2_with fail
    go_returns
    exact ⟨by rw [Hv.out]; rfl, by go_grown⟩
end Go.Proofs.YtebldfnocpcddaaGreatDoor
