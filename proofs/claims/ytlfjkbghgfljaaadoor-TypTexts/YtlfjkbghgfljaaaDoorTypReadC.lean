/-
  Contracts of package typ's Read and Parse.
-/
import Derived.Test.YtlfjkbghgfljaaaDoorTypTextC
namespace Go.Proofs.YtlfjkbghgfljaaaDoor
open Go.RowKit

/-- what Read and Parse return -/
def trdV (r : (Int × Int) × Nat × Nat) : Value := .tuple #[TT r.1.1 r.1.2, .int .i64 (r.2.1 : Nat), .int .i64 (r.2.2 : Nat)]
def tpsV (r : (Int × Int) × Nat) : Value := .tuple #[TT r.1.1 r.1.2, .int .i64 (r.2 : Nat)]
set_option maxRecDepth 100000 in
set_option maxHeartbeats 3200000 in
theorem tread_any (s : ByteArray) (w : World) (hk : KTab w) (hs : s.size ≤ 1000000) : Calls Tryd.prog 20 #[.string s] w fun e w' => e = .returned (trdV (readT (bs s))) ∧ Below w.heap.size w w' := by
  have HT := Lib.hid hk; clear hk
  have H1 := Lib.hid (fun w => nread_any s w hs)
  have hle := rdN_le (bs s)
  rw [bs_length] at hle
  have HK := Lib.hid (fun w hk => kof_any (s.extract 0 (rdN (bs s))) w hk)
  rw [bs_front] at HK
  have HM := Lib.hid (fun w => readMax_any (s.extract (rdN (bs s)) s.size) w (by simp; omega))
  rw [bs_rest] at HM
  have h1 := readT_1 (l := bs s)
  have h2 := readT_2 (l := bs s)
  have h0 := readT_0 (l := bs s)
  have h3 := fun c m k e => readT_s (l := bs s) (c := c) (m := m) (k := k) (e := e)
  have hok := fun z k => rmaxW_ok (l := (bs s).drop (rdN (bs s))) (z := z) (k := k)
  have hdl : ((bs s).drop (rdN (bs s))).length ≤ s.size := by rw [List.length_drop, bs_length]; omega
  have hc := kindL_cases ((bs s).take (rdN (bs s)))
  generalize kindL ((bs s).take (rdN (bs s))) = c at HK h1 h2 h0 h3 hc
  generalize rmaxW ((bs s).drop (rdN (bs s))) = q at HM h3 hok
  obtain ⟨m, k, e⟩ := q
  replace HM : Hid (∀ w, Calls Tryd.prog 38 #[.string (s.extract (rdN (bs s)) s.size)] w fun e' w' => e' = .returned (.tuple #[.int .i64 m, .int .i64 (k : Nat), .int .i64 (e : Nat)]) ∧ w = w') := HM
  generalize rdN (bs s) = n at H1 hle HK HM h1 h2 h0 h3 hc
  have i0 : (0 : Int) ≤ (n : Int) := by omega
  have i1 : (n : Int) ≤ (s.size : Int) := by omega
  clear hle
  rcases hc with ⟨-, rfl⟩ | ⟨-, rfl⟩ | ⟨-, rfl⟩ | ⟨-, rfl⟩ | ⟨q1, q2, q3, q4, rfl⟩
  · have Hv := Lib.hid (h1 rfl)
    clear h0 h1 h2 h3 hok hdl
    have HN := Lib.hid (fun w => isnum_any 1 w)
    rw [show numK 1 = true from rfl] at HN
    have HS := Lib.hid (fun w => isstr_any 1 w)
    rw [show strK 1 = false from rfl] at HS
    go_enter Tryd.func20, Tryd.ntmps20
    go_wp2_with fail
    refine (H1.out _).mono ?_
    rintro e w1 ⟨rfl, rfl⟩
    go_wp2_with fail
    refine (HK.out _ (HT.out.alloc _)).mono ?_
    rintro e w1 ⟨rfl, rfl⟩
    go_wp2_with fail
    refine (HN.out _).mono ?_
    rintro e w1 ⟨rfl, rfl⟩
    go_wp2_with fail
    go_returns
    exact ⟨by rw [Hv.out]; rfl, by go_grown⟩
  · have Hv := Lib.hid (h2 rfl)
    clear h0 h1 h2 h3 hok hdl
    have HN := Lib.hid (fun w => isnum_any 2 w)
    rw [show numK 2 = true from rfl] at HN
    have HS := Lib.hid (fun w => isstr_any 2 w)
    rw [show strK 2 = false from rfl] at HS
    go_enter Tryd.func20, Tryd.ntmps20
    go_wp2_with fail
    refine (H1.out _).mono ?_
    rintro e w1 ⟨rfl, rfl⟩
    go_wp2_with fail
    refine (HK.out _ (HT.out.alloc _)).mono ?_
    rintro e w1 ⟨rfl, rfl⟩
    go_wp2_with fail
    refine (HN.out _).mono ?_
    rintro e w1 ⟨rfl, rfl⟩
    go_wp2_with fail
    go_returns
    exact ⟨by rw [Hv.out]; rfl, by go_grown⟩
  · have Hv := Lib.hid (h3 3 m k e rfl (by omega) rfl)
    clear h0 h1 h2 h3
    have HN := Lib.hid (fun w => isnum_any 3 w)
    rw [show numK 3 = false from rfl] at HN
    have HS := Lib.hid (fun w => isstr_any 3 w)
    rw [show strK 3 = true from rfl] at HS
    unfold readT2 at Hv
    by_cases he : e = 0
    · subst he
      rw [if_pos rfl] at Hv
      have hk := (hok m k rfl).2.2
      have iw : wrap64 ((n : Int) + (k : Int)) = (n : Int) + (k : Int) := by go_arith
      clear hok hk hdl
      go_enter Tryd.func20, Tryd.ntmps20
      go_wp2_with fail
      refine (H1.out _).mono ?_
      rintro e w1 ⟨rfl, rfl⟩
      go_wp2_with fail
      refine (HK.out _ (HT.out.alloc _)).mono ?_
      rintro e w1 ⟨rfl, rfl⟩
      go_wp2_with fail
      refine (HN.out _).mono ?_
      rintro e w1 ⟨rfl, rfl⟩
      go_wp2_with fail
      refine (HS.out _).mono ?_
      rintro e w1 ⟨rfl, rfl⟩
      go_wp2_with fail
      refine (HM.out _).mono ?_
      rintro e w1 ⟨rfl, rfl⟩
      go_wp2_with fail
      go_returns
      refine ⟨?_, by go_grown⟩
      rw [Hv.out]
      show _ = Ending.returned (.tuple #[TT 3 m, .int .i64 ((n + k : Nat) : Int), .int .i64 0])
      rw [show (((n + k : Nat) : Int)) = (n : Int) + (k : Int) by omega]
      first | (rw [iw]; rfl) | rw [iw]
    · have d : ((e : Int) != 0) = true := by simp; omega
      rw [if_neg he] at Hv
      clear he hok hdl
      go_enter Tryd.func20, Tryd.ntmps20
      go_wp2_with fail
      refine (H1.out _).mono ?_
      rintro e w1 ⟨rfl, rfl⟩
      go_wp2_with fail
      refine (HK.out _ (HT.out.alloc _)).mono ?_
      rintro e w1 ⟨rfl, rfl⟩
      go_wp2_with fail
      refine (HN.out _).mono ?_
      rintro e w1 ⟨rfl, rfl⟩
      go_wp2_with fail
      refine (HS.out _).mono ?_
      rintro e w1 ⟨rfl, rfl⟩
      go_wp2_with fail
      refine (HM.out _).mono ?_
      rintro e w1 ⟨rfl, rfl⟩
      go_wp2_with fail
      go_returns
      exact ⟨by rw [Hv.out]; rfl, by go_grown⟩
  · have Hv := Lib.hid (h3 4 m k e rfl (by omega) rfl)
    clear h0 h1 h2 h3
    have HN := Lib.hid (fun w => isnum_any 4 w)
    rw [show numK 4 = false from rfl] at HN
    have HS := Lib.hid (fun w => isstr_any 4 w)
    rw [show strK 4 = true from rfl] at HS
    unfold readT2 at Hv
    by_cases he : e = 0
    · subst he
      rw [if_pos rfl] at Hv
      have hk := (hok m k rfl).2.2
      have iw : wrap64 ((n : Int) + (k : Int)) = (n : Int) + (k : Int) := by go_arith
      clear hok hk hdl
      go_enter Tryd.func20, Tryd.ntmps20
      go_wp2_with fail
      refine (H1.out _).mono ?_
      rintro e w1 ⟨rfl, rfl⟩
      go_wp2_with fail
      refine (HK.out _ (HT.out.alloc _)).mono ?_
      rintro e w1 ⟨rfl, rfl⟩
      go_wp2_with fail
      refine (HN.out _).mono ?_
      rintro e w1 ⟨rfl, rfl⟩
      go_wp2_with fail
      refine (HS.out _).mono ?_
      rintro e w1 ⟨rfl, rfl⟩
      go_wp2_with fail
      refine (HM.out _).mono ?_
      rintro e w1 ⟨rfl, rfl⟩
      go_wp2_with fail
      go_returns
      refine ⟨?_, by go_grown⟩
      rw [Hv.out]
      show _ = Ending.returned (.tuple #[TT 4 m, .int .i64 ((n + k : Nat) : Int), .int .i64 0])
      rw [show (((n + k : Nat) : Int)) = (n : Int) + (k : Int) by omega]
      first | (rw [iw]; rfl) | rw [iw]
    · have d : ((e : Int) != 0) = true := by simp; omega
      rw [if_neg he] at Hv
      clear he hok hdl
      go_enter Tryd.func20, Tryd.ntmps20
      go_wp2_with fail
      refine (H1.out _).mono ?_
      rintro e w1 ⟨rfl, rfl⟩
      go_wp2_with fail
      refine (HK.out _ (HT.out.alloc _)).mono ?_
      rintro e w1 ⟨rfl, rfl⟩
      go_wp2_with fail
      refine (HN.out _).mono ?_
      rintro e w1 ⟨rfl, rfl⟩
      go_wp2_with fail
      refine (HS.out _).mono ?_
      rintro e w1 ⟨rfl, rfl⟩
      go_wp2_with fail
      refine (HM.out _).mono ?_
      rintro e w1 ⟨rfl, rfl⟩
      go_wp2_with fail
      go_returns
      exact ⟨by rw [Hv.out]; rfl, by go_grown⟩
  · have Hv := Lib.hid (h0 rfl)
    clear h0 h1 h2 h3 q1 q2 q3 q4 hok hdl
    have HN := Lib.hid (fun w => isnum_any 0 w)
    rw [show numK 0 = false from rfl] at HN
    have HS := Lib.hid (fun w => isstr_any 0 w)
    rw [show strK 0 = false from rfl] at HS
    go_enter Tryd.func20, Tryd.ntmps20
    go_wp2_with fail
    refine (H1.out _).mono ?_
    rintro e w1 ⟨rfl, rfl⟩
    go_wp2_with fail
    refine (HK.out _ (HT.out.alloc _)).mono ?_
    rintro e w1 ⟨rfl, rfl⟩
    go_wp2_with fail
    refine (HN.out _).mono ?_
    rintro e w1 ⟨rfl, rfl⟩
    go_wp2_with fail
    refine (HS.out _).mono ?_
    rintro e w1 ⟨rfl, rfl⟩
    go_wp2_with fail
    go_returns
    exact ⟨by rw [Hv.out]; rfl, by go_grown⟩
set_option maxRecDepth 100000 in
set_option maxHeartbeats 1600000 in
theorem tparse_any (s : ByteArray) (w : World) (hk : KTab w) (hs : s.size ≤ 1000000) : Calls Tryd.prog 22 #[.string s] w fun e w' => e = .returned (tpsV (parseT (bs s))) ∧ Below w.heap.size w w' := by
  have HT := Lib.hid hk; clear hk
  have HR := Lib.hid (fun w hk => tread_any s w hk hs)
  obtain ⟨⟨⟨tk, tm⟩, k, e⟩, hr⟩ : ∃ r, readT (bs s) = r := ⟨_, rfl⟩
  have Hv := Lib.hid (parseT_eq hr)
  unfold parseT2 at Hv
  rw [bs_length] at Hv
  rw [hr] at HR
  replace HR : Hid (∀ w, KTab w → Calls Tryd.prog 20 #[.string s] w fun e' w' => e' = .returned (.tuple #[TT tk tm, .int .i64 (k : Nat), .int .i64 (e : Nat)]) ∧ Below w.heap.size w w') := HR
  clear hr
  by_cases he : e = 0
  · subst he
    rw [if_pos rfl] at Hv
    by_cases hk : k < s.size
    · rw [if_pos hk] at Hv
      go_enter Tryd.func22, Tryd.ntmps22
      go_wp2_with fail
      refine (HR.out _ (HT.out.alloc _)).mono ?_
      rintro e w1 ⟨rfl, hb1⟩
      have HB := Lib.hid ((Blk2.new w _ _ _ _ rfl).below hb1 (by simp))
      have hlt : w.heap.size < w1.heap.size := by have := hb1.size; simp at this; omega
      have hb' := below_new hb1
      clear hb1
      obtain ⟨c0, c1, f0, f1⟩ := HB.out
      go_wp2_with fail
      try simp only [Exit.inBlock, Exit.then]
      refine bodyPost_ret (results_t2 rfl _ _ rfl (HB.out.set2.alloc (by simp; omega) _)) rfl ?_
      exact ⟨by rw [Hv.out]; rfl, by go_grown⟩
    · rw [if_neg hk] at Hv
      go_enter Tryd.func22, Tryd.ntmps22
      go_wp2_with fail
      refine (HR.out _ (HT.out.alloc _)).mono ?_
      rintro e w1 ⟨rfl, hb1⟩
      have HB := Lib.hid ((Blk2.new w _ _ _ _ rfl).below hb1 (by simp))
      have hlt : w.heap.size < w1.heap.size := by have := hb1.size; simp at this; omega
      have hb' := below_new hb1
      clear hb1
      obtain ⟨c0, c1, f0, f1⟩ := HB.out
      go_wp2_with fail
      try simp only [Exit.inBlock, Exit.then]
      refine bodyPost_ret (results_t2 rfl _ _ rfl (HB.out.set2.alloc (by simp; omega) _)) rfl ?_
      exact ⟨by rw [Hv.out]; rfl, by go_grown⟩
  · rw [if_neg he] at Hv
    have d : ((e : Int) != 0) = true := by simp; omega
    clear he
    go_enter Tryd.func22, Tryd.ntmps22
    go_wp2_with fail
    refine (HR.out _ (HT.out.alloc _)).mono ?_
    rintro e w1 ⟨rfl, hb1⟩
    have HB := Lib.hid ((Blk2.new w _ _ _ _ rfl).below hb1 (by simp))
    have hlt : w.heap.size < w1.heap.size := by have := hb1.size; simp at this; omega
    have hb' := below_new hb1
    clear hb1
    obtain ⟨c0, c1, f0, f1⟩ := HB.out
    go_wp2_with fail
    try simp only [Exit.inBlock, Exit.then]
    refine bodyPost_ret (results_t2 rfl _ _ rfl (HB.out.set2.alloc (by simp; omega) _)) rfl ?_
    exact ⟨by rw [Hv.out]; rfl, by go_grown⟩
end Go.Proofs.YtlfjkbghgfljaaaDoor
