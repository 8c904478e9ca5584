/-
  Texts that the proof needs, one behind the other: DdlRPlainC, DtxCanC.
-/
import Derived.Test.YtebldfnocpcddaaGreatDoorPart36
import Derived.Test.YtebldfnocpcddaaGreatDoorPart38

/-
  Contract of the document's own Plain of layer 9.
-/
namespace Go.Proofs.YtebldfnocpcddaaGreatDoor
open Go.RowKit

/-- a change in its box, and another one -/
theorem box_dxd (w : World) (d x : Db) : ∃ w0, ((w.alloc (.cells #[.int .i64 d.p.op, .string d.p.tb, .string d.p.co, .string d.p.to, .string d.p.key, .int .i64 d.p.tk, .int .i64 d.p.tm, .bool d.p.nl, .int .i64 d.p.dk, .int .i64 d.p.dn, .string d.p.ds, .slice d.A d.p.cols.length d.cap] 28)).alloc (.cells #[.int .i64 x.p.op, .string x.p.tb, .string x.p.co, .string x.p.to, .string x.p.key, .int .i64 x.p.tk, .int .i64 x.p.tm, .bool x.p.nl, .int .i64 x.p.dk, .int .i64 x.p.dn, .string x.p.ds, .slice x.A x.p.cols.length x.cap] 28)).drew = w0 ∧
    Below w.heap.size w w0 ∧ BlkN w0 w.heap.size (fD d) ∧ BlkN w0 (w.heap.size + 1) (fD x) ∧ w0.heap.size = w.heap.size + 2 :=
  ⟨_, rfl, (below_two w _ _).drew, fun i v hv => ((BlkN.new w _ (fD d) _ rfl).alloc (by simp) (.cells (fD x).toArray 28)) i v hv, fun i v hv => (BlkN.new (w.alloc (.cells (fD d).toArray 28)) _ (fD x) 28 (by simp)) i v hv, by simp⟩
theorem cols_stop {l : List Cb} {k : Nat} {x : Cb} (hx : l[k]? = some x) (h : (x.id == 0) = false) : (l.all fun c => c.id == 0) = false := all_stop8 hx h
set_option maxRecDepth 100000 in
set_option maxHeartbeats 6000000 in
theorem rplain_any (d : Db) (w : World) (hD : DdlAt w w.heap.size d) (hl : d.p.cols.length ≤ 1000000) : Calls Tryz.prog 22 #[DV d] w fun e w' => e = .returned (.bool (plainD d.p)) ∧ Below w.heap.size w w' := by
  have HD := Lib.hid hD; clear hD
  have HS := Lib.hid (fun (x : Db) (w' : World) (hx : DdlAt w' w'.heap.size x) (hd : DdlAt w' w'.heap.size d) (hxl : x.p.cols.length ≤ 1000000) => rsame9_any x d w' hx hd hxl hl)
  by_cases e2 : d.p.op = 2
  · have Hv : Hid (sameD ⟨⟨d.p.op, d.p.tb, ⟨#[]⟩, ⟨#[]⟩, ⟨#[]⟩, 0, 0, false, 0, 0, ⟨#[]⟩, []⟩, none, 0⟩ d = plainD d.p) := kept_plain d ⟨⟨d.p.op, d.p.tb, ⟨#[]⟩, ⟨#[]⟩, ⟨#[]⟩, 0, 0, false, 0, 0, ⟨#[]⟩, []⟩, none, 0⟩ (by unfold keptD; simp only [e2, reduceIte, Int.reduceEq]; rfl) (by omega) (by omega)
    have HS1 : Hid (∀ w', DdlAt w' w'.heap.size d → Calls Tryz.prog 15 #[DV ⟨⟨d.p.op, d.p.tb, ⟨#[]⟩, ⟨#[]⟩, ⟨#[]⟩, 0, 0, false, 0, 0, ⟨#[]⟩, []⟩, none, 0⟩, DV d] w' fun e w2 => e = .returned (.bool (plainD d.p)) ∧ Below w'.heap.size w' w2) := fun w' h => by
      have h1 := HS.out ⟨⟨d.p.op, d.p.tb, ⟨#[]⟩, ⟨#[]⟩, ⟨#[]⟩, 0, 0, false, 0, 0, ⟨#[]⟩, []⟩, none, 0⟩ w' (fun h0 => absurd h0 (by simp)) h (by simp)
      rwa [Hv.out] at h1
    clear Hv HS
    generalize plainD d.p = R at HS1 ⊢
    have q1 : (d.p.op == 1) = false := by rw [beq_eq_false_iff_ne]; omega
    have q2 : (d.p.op == 2) = true := by rw [beq_iff_eq]; omega
    clear e2
    go_enter Tryz.func22, Tryz.ntmps22
    go_wp2_with fail
    refine (HS1.out _ (HD.out.to (by go_grown))).mono ?_
    rintro e w1 ⟨rfl, hb1⟩
    have Hb1 : Hid (Below w.heap.size w w1) := bthen (by go_grown) hb1
    clear hb1
    go_wp2_with fail
    go_ret
    exact ⟨rfl, Hb1.out⟩
  by_cases e3 : d.p.op = 3
  · have Hv : Hid (sameD ⟨⟨d.p.op, d.p.tb, ⟨#[]⟩, d.p.to, ⟨#[]⟩, 0, 0, false, 0, 0, ⟨#[]⟩, []⟩, none, 0⟩ d = plainD d.p) := kept_plain d ⟨⟨d.p.op, d.p.tb, ⟨#[]⟩, d.p.to, ⟨#[]⟩, 0, 0, false, 0, 0, ⟨#[]⟩, []⟩, none, 0⟩ (by unfold keptD; simp only [e3, reduceIte, Int.reduceEq]; rfl) (by omega) (by omega)
    have HS1 : Hid (∀ w', DdlAt w' w'.heap.size d → Calls Tryz.prog 15 #[DV ⟨⟨d.p.op, d.p.tb, ⟨#[]⟩, d.p.to, ⟨#[]⟩, 0, 0, false, 0, 0, ⟨#[]⟩, []⟩, none, 0⟩, DV d] w' fun e w2 => e = .returned (.bool (plainD d.p)) ∧ Below w'.heap.size w' w2) := fun w' h => by
      have h1 := HS.out ⟨⟨d.p.op, d.p.tb, ⟨#[]⟩, d.p.to, ⟨#[]⟩, 0, 0, false, 0, 0, ⟨#[]⟩, []⟩, none, 0⟩ w' (fun h0 => absurd h0 (by simp)) h (by simp)
      rwa [Hv.out] at h1
    clear Hv HS
    generalize plainD d.p = R at HS1 ⊢
    have q1 : (d.p.op == 1) = false := by rw [beq_eq_false_iff_ne]; omega
    have q2 : (d.p.op == 2) = false := by rw [beq_eq_false_iff_ne]; omega
    have q3 : (d.p.op == 3) = true := by rw [beq_iff_eq]; omega
    clear e2 e3
    go_enter Tryz.func22, Tryz.ntmps22
    go_wp2_with fail
    refine (HS1.out _ (HD.out.to (by go_grown))).mono ?_
    rintro e w1 ⟨rfl, hb1⟩
    have Hb1 : Hid (Below w.heap.size w w1) := bthen (by go_grown) hb1
    clear hb1
    go_wp2_with fail
    go_ret
    exact ⟨rfl, Hb1.out⟩
  by_cases e4 : d.p.op = 4
  · have Hv : Hid (sameD ⟨⟨d.p.op, d.p.tb, d.p.co, ⟨#[]⟩, ⟨#[]⟩, d.p.tk, d.p.tm, d.p.nl, d.p.dk, d.p.dn, d.p.ds, []⟩, none, 0⟩ d = plainD d.p) := kept_plain d ⟨⟨d.p.op, d.p.tb, d.p.co, ⟨#[]⟩, ⟨#[]⟩, d.p.tk, d.p.tm, d.p.nl, d.p.dk, d.p.dn, d.p.ds, []⟩, none, 0⟩ (by unfold keptD; simp only [e4, reduceIte, Int.reduceEq]; rfl) (by omega) (by omega)
    have HS1 : Hid (∀ w', DdlAt w' w'.heap.size d → Calls Tryz.prog 15 #[DV ⟨⟨d.p.op, d.p.tb, d.p.co, ⟨#[]⟩, ⟨#[]⟩, d.p.tk, d.p.tm, d.p.nl, d.p.dk, d.p.dn, d.p.ds, []⟩, none, 0⟩, DV d] w' fun e w2 => e = .returned (.bool (plainD d.p)) ∧ Below w'.heap.size w' w2) := fun w' h => by
      have h1 := HS.out ⟨⟨d.p.op, d.p.tb, d.p.co, ⟨#[]⟩, ⟨#[]⟩, d.p.tk, d.p.tm, d.p.nl, d.p.dk, d.p.dn, d.p.ds, []⟩, none, 0⟩ w' (fun h0 => absurd h0 (by simp)) h (by simp)
      rwa [Hv.out] at h1
    clear Hv HS
    generalize plainD d.p = R at HS1 ⊢
    have q1 : (d.p.op == 1) = false := by rw [beq_eq_false_iff_ne]; omega
    have q2 : (d.p.op == 2) = false := by rw [beq_eq_false_iff_ne]; omega
    have q3 : (d.p.op == 3) = false := by rw [beq_eq_false_iff_ne]; omega
    have q4 : (d.p.op == 4) = true := by rw [beq_iff_eq]; omega
    clear e2 e3 e4
    go_enter Tryz.func22, Tryz.ntmps22
    go_wp2_with fail
    go_region
    go_wp2_with fail
    refine (HS1.out _ (HD.out.to (by go_grown))).mono ?_
    rintro e w1 ⟨rfl, hb1⟩
    have Hb1 : Hid (Below w.heap.size w w1) := bthen (by go_grown) hb1
    clear hb1
    go_wp2_with fail
    go_ret
    exact ⟨rfl, Hb1.out⟩
  by_cases e5 : d.p.op = 5
  · have Hv : Hid (sameD ⟨⟨d.p.op, d.p.tb, d.p.co, ⟨#[]⟩, ⟨#[]⟩, 0, 0, false, 0, 0, ⟨#[]⟩, []⟩, none, 0⟩ d = plainD d.p) := kept_plain d ⟨⟨d.p.op, d.p.tb, d.p.co, ⟨#[]⟩, ⟨#[]⟩, 0, 0, false, 0, 0, ⟨#[]⟩, []⟩, none, 0⟩ (by unfold keptD; simp only [e5, reduceIte, Int.reduceEq]; rfl) (by omega) (by omega)
    have HS1 : Hid (∀ w', DdlAt w' w'.heap.size d → Calls Tryz.prog 15 #[DV ⟨⟨d.p.op, d.p.tb, d.p.co, ⟨#[]⟩, ⟨#[]⟩, 0, 0, false, 0, 0, ⟨#[]⟩, []⟩, none, 0⟩, DV d] w' fun e w2 => e = .returned (.bool (plainD d.p)) ∧ Below w'.heap.size w' w2) := fun w' h => by
      have h1 := HS.out ⟨⟨d.p.op, d.p.tb, d.p.co, ⟨#[]⟩, ⟨#[]⟩, 0, 0, false, 0, 0, ⟨#[]⟩, []⟩, none, 0⟩ w' (fun h0 => absurd h0 (by simp)) h (by simp)
      rwa [Hv.out] at h1
    clear Hv HS
    generalize plainD d.p = R at HS1 ⊢
    have q1 : (d.p.op == 1) = false := by rw [beq_eq_false_iff_ne]; omega
    have q2 : (d.p.op == 2) = false := by rw [beq_eq_false_iff_ne]; omega
    have q3 : (d.p.op == 3) = false := by rw [beq_eq_false_iff_ne]; omega
    have q4 : (d.p.op == 4) = false := by rw [beq_eq_false_iff_ne]; omega
    have q5 : (d.p.op == 5) = true := by rw [beq_iff_eq]; omega
    clear e2 e3 e4 e5
    go_enter Tryz.func22, Tryz.ntmps22
    go_wp2_with fail
    refine (HS1.out _ (HD.out.to (by go_grown))).mono ?_
    rintro e w1 ⟨rfl, hb1⟩
    have Hb1 : Hid (Below w.heap.size w w1) := bthen (by go_grown) hb1
    clear hb1
    go_wp2_with fail
    go_ret
    exact ⟨rfl, Hb1.out⟩
  by_cases e6 : d.p.op = 6
  · have Hv : Hid (sameD ⟨⟨d.p.op, d.p.tb, d.p.co, d.p.to, ⟨#[]⟩, 0, 0, false, 0, 0, ⟨#[]⟩, []⟩, none, 0⟩ d = plainD d.p) := kept_plain d ⟨⟨d.p.op, d.p.tb, d.p.co, d.p.to, ⟨#[]⟩, 0, 0, false, 0, 0, ⟨#[]⟩, []⟩, none, 0⟩ (by unfold keptD; simp only [e6, reduceIte, Int.reduceEq]; rfl) (by omega) (by omega)
    have HS1 : Hid (∀ w', DdlAt w' w'.heap.size d → Calls Tryz.prog 15 #[DV ⟨⟨d.p.op, d.p.tb, d.p.co, d.p.to, ⟨#[]⟩, 0, 0, false, 0, 0, ⟨#[]⟩, []⟩, none, 0⟩, DV d] w' fun e w2 => e = .returned (.bool (plainD d.p)) ∧ Below w'.heap.size w' w2) := fun w' h => by
      have h1 := HS.out ⟨⟨d.p.op, d.p.tb, d.p.co, d.p.to, ⟨#[]⟩, 0, 0, false, 0, 0, ⟨#[]⟩, []⟩, none, 0⟩ w' (fun h0 => absurd h0 (by simp)) h (by simp)
      rwa [Hv.out] at h1
    clear Hv HS
    generalize plainD d.p = R at HS1 ⊢
    have q1 : (d.p.op == 1) = false := by rw [beq_eq_false_iff_ne]; omega
    have q2 : (d.p.op == 2) = false := by rw [beq_eq_false_iff_ne]; omega
    have q3 : (d.p.op == 3) = false := by rw [beq_eq_false_iff_ne]; omega
    have q4 : (d.p.op == 4) = false := by rw [beq_eq_false_iff_ne]; omega
    have q5 : (d.p.op == 5) = false := by rw [beq_eq_false_iff_ne]; omega
    have q6 : (d.p.op == 6) = true := by rw [beq_iff_eq]; omega
    clear e2 e3 e4 e5 e6
    go_enter Tryz.func22, Tryz.ntmps22
    go_wp2_with fail
    go_region
    go_wp2_with fail
    refine (HS1.out _ (HD.out.to (by go_grown))).mono ?_
    rintro e w1 ⟨rfl, hb1⟩
    have Hb1 : Hid (Below w.heap.size w w1) := bthen (by go_grown) hb1
    clear hb1
    go_wp2_with fail
    go_ret
    exact ⟨rfl, Hb1.out⟩
  by_cases e7 : d.p.op = 7
  · have Hv : Hid (sameD ⟨⟨d.p.op, d.p.tb, d.p.co, ⟨#[]⟩, ⟨#[]⟩, d.p.tk, d.p.tm, false, 0, 0, ⟨#[]⟩, []⟩, none, 0⟩ d = plainD d.p) := kept_plain d ⟨⟨d.p.op, d.p.tb, d.p.co, ⟨#[]⟩, ⟨#[]⟩, d.p.tk, d.p.tm, false, 0, 0, ⟨#[]⟩, []⟩, none, 0⟩ (by unfold keptD; simp only [e7, reduceIte, Int.reduceEq]; rfl) (by omega) (by omega)
    have HS1 : Hid (∀ w', DdlAt w' w'.heap.size d → Calls Tryz.prog 15 #[DV ⟨⟨d.p.op, d.p.tb, d.p.co, ⟨#[]⟩, ⟨#[]⟩, d.p.tk, d.p.tm, false, 0, 0, ⟨#[]⟩, []⟩, none, 0⟩, DV d] w' fun e w2 => e = .returned (.bool (plainD d.p)) ∧ Below w'.heap.size w' w2) := fun w' h => by
      have h1 := HS.out ⟨⟨d.p.op, d.p.tb, d.p.co, ⟨#[]⟩, ⟨#[]⟩, d.p.tk, d.p.tm, false, 0, 0, ⟨#[]⟩, []⟩, none, 0⟩ w' (fun h0 => absurd h0 (by simp)) h (by simp)
      rwa [Hv.out] at h1
    clear Hv HS
    generalize plainD d.p = R at HS1 ⊢
    have q1 : (d.p.op == 1) = false := by rw [beq_eq_false_iff_ne]; omega
    have q2 : (d.p.op == 2) = false := by rw [beq_eq_false_iff_ne]; omega
    have q3 : (d.p.op == 3) = false := by rw [beq_eq_false_iff_ne]; omega
    have q4 : (d.p.op == 4) = false := by rw [beq_eq_false_iff_ne]; omega
    have q5 : (d.p.op == 5) = false := by rw [beq_eq_false_iff_ne]; omega
    have q6 : (d.p.op == 6) = false := by rw [beq_eq_false_iff_ne]; omega
    have q7 : (d.p.op == 7) = true := by rw [beq_iff_eq]; omega
    clear e2 e3 e4 e5 e6 e7
    go_enter Tryz.func22, Tryz.ntmps22
    go_wp2_with fail
    go_region
    go_wp2_with fail
    refine (HS1.out _ (HD.out.to (by go_grown))).mono ?_
    rintro e w1 ⟨rfl, hb1⟩
    have Hb1 : Hid (Below w.heap.size w w1) := bthen (by go_grown) hb1
    clear hb1
    go_wp2_with fail
    go_ret
    exact ⟨rfl, Hb1.out⟩
  by_cases e8 : d.p.op = 8
  · have Hv : Hid (sameD ⟨⟨d.p.op, d.p.tb, d.p.co, ⟨#[]⟩, ⟨#[]⟩, 0, 0, false, d.p.dk, d.p.dn, d.p.ds, []⟩, none, 0⟩ d = plainD d.p) := kept_plain d ⟨⟨d.p.op, d.p.tb, d.p.co, ⟨#[]⟩, ⟨#[]⟩, 0, 0, false, d.p.dk, d.p.dn, d.p.ds, []⟩, none, 0⟩ (by unfold keptD; simp only [e8, reduceIte, Int.reduceEq]; rfl) (by omega) (by omega)
    have HS1 : Hid (∀ w', DdlAt w' w'.heap.size d → Calls Tryz.prog 15 #[DV ⟨⟨d.p.op, d.p.tb, d.p.co, ⟨#[]⟩, ⟨#[]⟩, 0, 0, false, d.p.dk, d.p.dn, d.p.ds, []⟩, none, 0⟩, DV d] w' fun e w2 => e = .returned (.bool (plainD d.p)) ∧ Below w'.heap.size w' w2) := fun w' h => by
      have h1 := HS.out ⟨⟨d.p.op, d.p.tb, d.p.co, ⟨#[]⟩, ⟨#[]⟩, 0, 0, false, d.p.dk, d.p.dn, d.p.ds, []⟩, none, 0⟩ w' (fun h0 => absurd h0 (by simp)) h (by simp)
      rwa [Hv.out] at h1
    clear Hv HS
    generalize plainD d.p = R at HS1 ⊢
    have q1 : (d.p.op == 1) = false := by rw [beq_eq_false_iff_ne]; omega
    have q2 : (d.p.op == 2) = false := by rw [beq_eq_false_iff_ne]; omega
    have q3 : (d.p.op == 3) = false := by rw [beq_eq_false_iff_ne]; omega
    have q4 : (d.p.op == 4) = false := by rw [beq_eq_false_iff_ne]; omega
    have q5 : (d.p.op == 5) = false := by rw [beq_eq_false_iff_ne]; omega
    have q6 : (d.p.op == 6) = false := by rw [beq_eq_false_iff_ne]; omega
    have q7 : (d.p.op == 7) = false := by rw [beq_eq_false_iff_ne]; omega
    have q8 : (d.p.op == 8) = true := by rw [beq_iff_eq]; omega
    clear e2 e3 e4 e5 e6 e7 e8
    go_enter Tryz.func22, Tryz.ntmps22
    go_wp2_with fail
    go_region
    go_wp2_with fail
    refine (HS1.out _ (HD.out.to (by go_grown))).mono ?_
    rintro e w1 ⟨rfl, hb1⟩
    have Hb1 : Hid (Below w.heap.size w w1) := bthen (by go_grown) hb1
    clear hb1
    go_wp2_with fail
    go_ret
    exact ⟨rfl, Hb1.out⟩
  by_cases e1 : d.p.op = 1
  · have Hl := Lib.hid hl; clear hl
    have q1 : (d.p.op == 1) = true := by rw [beq_iff_eq]; omega
    have E1 := Lib.hid e1
    clear e1 e2 e3 e4 e5 e6 e7 e8
    go_enter Tryz.func22, Tryz.ntmps22
    go_wp2_with fail
    go_region
    go_wp2_with fail
    obtain ⟨w0, hw0, hb0, hX, hY, hs0⟩ := box_dxd w d ⟨⟨d.p.op, d.p.tb, ⟨#[]⟩, ⟨#[]⟩, d.p.key, 0, 0, false, 0, 0, ⟨#[]⟩, d.p.cols⟩, d.A, d.cap⟩
    dsimp only at hw0
    have Hw0 := Lib.hid hw0; clear hw0
    have HbW := Lib.hid hb0
    have HX := Lib.hid hX; clear hX
    have HY := Lib.hid hY; clear hY
    have Hs0 := Lib.hid hs0; clear hs0
    have HD0 := Lib.hid (HD.out.to hb0); clear hb0
    rw [Hw0.out]
    obtain ⟨x0, x1, x2, x3, x4, x5, x6, x7, x8, x9, x10, x11⟩ := HX.out.ddl
    obtain ⟨y0, y1, y2, y3, y4, y5, y6, y7, y8, y9, y10, y11⟩ := HY.out.ddl
    dsimp only at y0 y1 y2 y3 y4 y5 y6 y7 y8 y9 y10 y11
    go_loop [4] (fun i => ∃ k : Nat, k ≤ d.p.cols.length ∧ i = .int .i64 k ∧ Hid (∀ j x, d.p.cols[j]? = some x → j < k → (x.id == 0) = true)) (fun i => d.p.cols.length - (intOf i).toNat)
    case atStart => exact ⟨0, by omega, rfl, fun j v _ h => absurd h (by omega)⟩
    case round =>
      obtain ⟨k, hk, rfl, hall⟩ := hrel
      have hl := Hl.out
      by_cases hlt : k < d.p.cols.length
      · obtain ⟨c, hc⟩ : ∃ c, d.p.cols[k]? = some c := ⟨d.p.cols[k], by simp [hlt]⟩
        have Hc := Lib.hid hc
        obtain ⟨b, off, hAe, hbB, d0, d1, d2, d3, d4, d5, d6, d7⟩ := ColsAt.get HD0.out k c hc
        rw [hAe] at x11
        clear hc hAe
        cases hp : (c.id == 0)
        · have Hno : Hid (plainD d.p = false) := by
            show _ = _
            unfold plainD
            rw [if_pos E1.out, cols_stop Hc.out hp]
            simp
          go_wp2_with fail
          go_ret
          exact ⟨by rw [Hno.out]; rfl, HbW.out⟩
        · have Hall : Hid (∀ j x, d.p.cols[j]? = some x → j < k + 1 → (x.id == 0) = true) := fun j y hj hk => by
            by_cases e : j = k
            · subst e
              rw [Hc.out] at hj
              cases hj
              exact hp
            · exact hall.out j y hj (by omega)
          go_wp2_with fail
          go_round
          case rel => exact ⟨k + 1, by omega, by go_num, Hall.out⟩
          case measure => simp [intOf]; omega
      · have hyes : (d.p.cols.all fun c => c.id == 0) = true := all_at fun j x hj => hall.out j x hj (by have := (List.getElem?_eq_some_iff.1 hj).1; omega)
        have HS1 : Hid (Calls Tryz.prog 15 #[DV ⟨⟨d.p.op, d.p.tb, ⟨#[]⟩, ⟨#[]⟩, d.p.key, 0, 0, false, 0, 0, ⟨#[]⟩, d.p.cols⟩, d.A, d.cap⟩, DV d] w0 fun e w2 => e = .returned (.bool (plainD d.p)) ∧ Below w0.heap.size w0 w2) := by
          have h1 := HS.out ⟨⟨d.p.op, d.p.tb, ⟨#[]⟩, ⟨#[]⟩, d.p.key, 0, 0, false, 0, 0, ⟨#[]⟩, d.p.cols⟩, d.A, d.cap⟩ w0 HD0.out HD0.out hl
          rwa [kept_plain d ⟨⟨d.p.op, d.p.tb, ⟨#[]⟩, ⟨#[]⟩, d.p.key, 0, 0, false, 0, 0, ⟨#[]⟩, d.p.cols⟩, d.A, d.cap⟩ (by unfold keptD; simp only [E1.out, reduceIte]; rfl) (.inl E1.out) (fun _ => hyes)] at h1
        clear hyes HS
        obtain ⟨R, hR⟩ : ∃ R, plainD d.p = R := ⟨_, rfl⟩
        rw [hR] at HS1
        have HR := Lib.hid hR; clear hR
        go_wp2_with fail
        refine HS1.out.mono ?_
        rintro e w1 ⟨rfl, hb1⟩
        have Hb1 := Lib.hid (bthen HbW.out hb1); clear hb1
        go_wp2_with fail
        go_ret
        exact ⟨by rw [HR.out]; rfl, Hb1.out⟩
  have Hv : Hid (plainD d.p = false) := plainD_no d.p (by omega)
  generalize plainD d.p = R at Hv ⊢
  have q1 : (d.p.op == 1) = false := by rw [beq_eq_false_iff_ne]; omega
  have q2 : (d.p.op == 2) = false := by rw [beq_eq_false_iff_ne]; omega
  have q3 : (d.p.op == 3) = false := by rw [beq_eq_false_iff_ne]; omega
  have q4 : (d.p.op == 4) = false := by rw [beq_eq_false_iff_ne]; omega
  have q5 : (d.p.op == 5) = false := by rw [beq_eq_false_iff_ne]; omega
  have q6 : (d.p.op == 6) = false := by rw [beq_eq_false_iff_ne]; omega
  have q7 : (d.p.op == 7) = false := by rw [beq_eq_false_iff_ne]; omega
  have q8 : (d.p.op == 8) = false := by rw [beq_eq_false_iff_ne]; omega
  clear e1 e2 e3 e4 e5 e6 e7 e8
  go_enter Tryz.func22, Tryz.ntmps22
  go_wp2_with fail
  go_ret
  exact ⟨by rw [Hv.out]; rfl, by go_grown⟩
end Go.Proofs.YtebldfnocpcddaaGreatDoor

/-
  The document's own Can of changes (layer 10).
-/
namespace Go.Proofs.YtebldfnocpcddaaGreatDoor
open Go.RowKit

theorem nrightB (s : ByteArray) (w : World) (hs : s.size ≤ 1000000) : Calls Tryz.prog 23 #[.string s] w fun e w' => e = .returned (.bool (rightN (bs s))) ∧ Below w.heap.size w w' :=
  (nrright_any s w hs).mono fun _ _ ⟨h1, h2⟩ => ⟨h1, by rw [← h2]; exact Below.refl _ _⟩
set_option maxRecDepth 100000 in
set_option maxHeartbeats 1600000 in
theorem rcolok_any (c : Cb) (w : World) (hc : WfPc c) : Calls Tryz.prog 24 #[CV c] w fun e w' => e = .returned (.bool (colOk c)) ∧ Below w.heap.size w w' := by
  obtain ⟨w0, hw0, hb0, hX, hs0⟩ := box_col w c
  have Hw0 := Lib.hid hw0; clear hw0
  have HbW := Lib.hid hb0
  have HX := Lib.hid hX; clear hX
  have Hs0 := Lib.hid hs0; clear hs0 hb0
  have HN := Lib.hid (fun w => nrightB c.nm w hc.1)
  have HR := Lib.hid (fun w => trright_any c.tk c.tm w)
  have HV := Lib.hid (fun w => vrright_any c.dk c.dn c.ds w hc.2.2.1 hc.2.2.2)
  have HE : Hid (colOk c = (rightN (bs c.nm) && (rightT c.tk c.tm && rightV c.dk c.dn (bs c.ds)))) := rfl
  generalize colOk c = V at HE ⊢
  generalize rightN (bs c.nm) = b1 at HN HE
  generalize rightT c.tk c.tm = b2 at HR HE
  generalize rightV c.dk c.dn (bs c.ds) = b3 at HV HE
  clear hc
  try clear x0 x1 x2 x3 x4 x5 x6 x7
  obtain ⟨x0, x1, x2, x3, x4, x5, x6, x7⟩ := HX.out.col
  go_enter Tryz.func24, Tryz.ntmps24
  go_wp2_with fail
  try rw [Hw0.out]
  refine (HN.out w0).mono ?_
  rintro e w1 ⟨rfl, hb⟩
  have Hb1 := Lib.hid hb
  clear hb
  try clear x0 x1 x2 x3 x4 x5 x6 x7
  obtain ⟨x0, x1, x2, x3, x4, x5, x6, x7⟩ := (HX.out.below Hb1.out (by have := Hs0.out; omega)).col
  cases b1
  · go_wp2_with fail
    go_ret
    exact ⟨by rw [HE.out]; rfl, bthen HbW.out Hb1.out⟩
  go_wp2_with fail
  refine (HR.out w1).mono ?_
  rintro e w2 ⟨rfl, hb⟩
  have Hb2 := Lib.hid (bthen Hb1.out hb)
  clear hb
  try clear x0 x1 x2 x3 x4 x5 x6 x7
  obtain ⟨x0, x1, x2, x3, x4, x5, x6, x7⟩ := (HX.out.below Hb2.out (by have := Hs0.out; omega)).col
  cases b2
  · go_wp2_with fail
    go_ret
    exact ⟨by rw [HE.out]; rfl, bthen HbW.out Hb2.out⟩
  go_wp2_with fail
  refine (HV.out w2).mono ?_
  rintro e w3 ⟨rfl, hb⟩
  have Hb3 := Lib.hid (bthen Hb2.out hb)
  clear hb
  try clear x0 x1 x2 x3 x4 x5 x6 x7
  obtain ⟨x0, x1, x2, x3, x4, x5, x6, x7⟩ := (HX.out.below Hb3.out (by have := Hs0.out; omega)).col
  go_wp2_with fail
  go_ret
  exact ⟨by rw [HE.out]; rfl, bthen HbW.out Hb3.out⟩
theorem box_d10 (w : World) (d : Db) : ∃ w0, w.alloc (.cells #[.int .i64 d.p.op, .string d.p.tb, .string d.p.co, .string d.p.to, .string d.p.key, .int .i64 d.p.tk, .int .i64 d.p.tm, .bool d.p.nl, .int .i64 d.p.dk, .int .i64 d.p.dn, .string d.p.ds, .slice d.A d.p.cols.length d.cap] 28) = w0 ∧ Below w.heap.size w w0 ∧ BlkN w0 w.heap.size (fD d) ∧ w0.heap.size = w.heap.size + 1 :=
  ⟨_, rfl, (Below.refl _ _).alloc (Nat.le_refl _) _, BlkN.new w _ (fD d) _ rfl, by simp⟩
set_option maxRecDepth 100000 in
set_option maxHeartbeats 3200000 in
theorem rcan0_any (d : Db) (w : World) (hA : DdlAt w w.heap.size d) (hP : WfP d.p) (hp : plainD d.p = false) :
    Calls Tryz.prog 10 #[DV d] w fun e w' => e = .returned (.bool (canD d.p)) ∧ Below w.heap.size w w' := by
  obtain ⟨w0, hw0, hb0, hX, hs0⟩ := box_d10 w d
  have Hw0 := Lib.hid hw0; clear hw0
  have HbW := Lib.hid hb0
  have HX := Lib.hid hX; clear hX
  have Hs0 := Lib.hid hs0; clear hs0
  have HA := Lib.hid (hA.to hb0); clear hb0 hA
  have HP := Lib.hid (fun w' h => rplain_any d w' h hP.2.2.2.2.2.2.1)
  have HE : Hid (canD d.p = false) := by show _ = _; unfold canD; rw [hp]; rfl
  rw [hp] at HP
  clear hP hp
  try clear x0 x1 x2 x3 x4 x5 x6 x7 x8 x9 x10 x11
  obtain ⟨x0, x1, x2, x3, x4, x5, x6, x7, x8, x9, x10, x11⟩ := HX.out.ddl
  go_enter Tryz.func10, Tryz.ntmps10
  go_wp2_with fail
  try rw [Hw0.out]
  refine (HP.out w0 (HA.out.to (Below.refl _ _))).mono ?_
  rintro e w1 ⟨rfl, hb⟩
  have Hb1 := Lib.hid hb
  clear hb
  try clear x0 x1 x2 x3 x4 x5 x6 x7 x8 x9 x10 x11
  obtain ⟨x0, x1, x2, x3, x4, x5, x6, x7, x8, x9, x10, x11⟩ := (HX.out.below Hb1.out (by have := Hs0.out; omega)).ddl
  go_wp2_with fail
  go_ret
  exact ⟨by rw [HE.out]; rfl, bthen HbW.out Hb1.out⟩
set_option maxRecDepth 100000 in
set_option maxHeartbeats 3200000 in
theorem rcan2_any (tb co to2 ke : ByteArray) (tk tm : Int) (nl : Bool) (dk dn : Int) (ds : ByteArray) (cols : List Cb) (A : Option Addr) (cap : Nat) (w : World) (hA : DdlAt w w.heap.size (⟨⟨2, tb, co, to2, ke, tk, tm, nl, dk, dn, ds, cols⟩, A, cap⟩ : Db)) (hP : WfP ((⟨⟨2, tb, co, to2, ke, tk, tm, nl, dk, dn, ds, cols⟩, A, cap⟩ : Db)).p) :
    Calls Tryz.prog 10 #[DV (⟨⟨2, tb, co, to2, ke, tk, tm, nl, dk, dn, ds, cols⟩, A, cap⟩ : Db)] w fun e w' => e = .returned (.bool (canD ((⟨⟨2, tb, co, to2, ke, tk, tm, nl, dk, dn, ds, cols⟩, A, cap⟩ : Db)).p)) ∧ Below w.heap.size w w' := by
  obtain ⟨w0, hw0, hb0, hX, hs0⟩ := box_d10 w (⟨⟨2, tb, co, to2, ke, tk, tm, nl, dk, dn, ds, cols⟩, A, cap⟩ : Db)
  have Hw0 := Lib.hid hw0; clear hw0
  have HbW := Lib.hid hb0
  have HX := Lib.hid hX; clear hX
  have Hs0 := Lib.hid hs0; clear hs0
  have HA := Lib.hid (hA.to hb0); clear hb0 hA
  obtain ⟨h1, h2, h3, h4, h5, ⟨h6, h7⟩, h8, h9⟩ := hP
  have H9 := Lib.hid h9; clear h9
  have HP := Lib.hid (fun w' h => rplain_any (⟨⟨2, tb, co, to2, ke, tk, tm, nl, dk, dn, ds, cols⟩, A, cap⟩ : Db) w' h h8)
  have HTb := Lib.hid (fun w => nrightB tb w h1)
  have HCo := Lib.hid (fun w => nrightB co w h2)
  have HTo := Lib.hid (fun w => nrightB to2 w h3)
  have HKe := Lib.hid (fun w => nrightB ke w h4)
  have HR := Lib.hid (fun w => trright_any tk tm w)
  have HV := Lib.hid (fun w => vrright_any dk dn ds w h6 h7)
  have HE : Hid (canD ((⟨⟨2, tb, co, to2, ke, tk, tm, nl, dk, dn, ds, cols⟩, A, cap⟩ : Db)).p = (plainD ((⟨⟨2, tb, co, to2, ke, tk, tm, nl, dk, dn, ds, cols⟩, A, cap⟩ : Db)).p && (rightN (bs tb) && true))) := rfl
  generalize canD ((⟨⟨2, tb, co, to2, ke, tk, tm, nl, dk, dn, ds, cols⟩, A, cap⟩ : Db)).p = V at HE ⊢
  generalize plainD ((⟨⟨2, tb, co, to2, ke, tk, tm, nl, dk, dn, ds, cols⟩, A, cap⟩ : Db)).p = pl at HP HE
  generalize rightN (bs tb) = b1 at HTb HE
  have h8 : cols.length ≤ 1000000 := h8
  clear h1 h2 h3 h4 h5 h6 h7
  try clear x0 x1 x2 x3 x4 x5 x6 x7 x8 x9 x10 x11
  obtain ⟨x0, x1, x2, x3, x4, x5, x6, x7, x8, x9, x10, x11⟩ := HX.out.ddl
  go_enter Tryz.func10, Tryz.ntmps10
  go_wp2_with fail
  try rw [Hw0.out]
  refine (HP.out w0 (HA.out.to (Below.refl _ _))).mono ?_
  rintro e w1 ⟨rfl, hb⟩
  have Hb1 := Lib.hid hb
  clear hb
  try clear x0 x1 x2 x3 x4 x5 x6 x7 x8 x9 x10 x11
  obtain ⟨x0, x1, x2, x3, x4, x5, x6, x7, x8, x9, x10, x11⟩ := (HX.out.below Hb1.out (by have := Hs0.out; omega)).ddl
  cases pl
  · go_wp2_with fail
    go_ret
    exact ⟨by rw [HE.out]; rfl, bthen HbW.out Hb1.out⟩
  go_wp2_with fail
  refine (HTb.out w1).mono ?_
  rintro e w2 ⟨rfl, hb⟩
  have Hb2 := Lib.hid (bthen Hb1.out hb)
  clear hb
  try clear x0 x1 x2 x3 x4 x5 x6 x7 x8 x9 x10 x11
  obtain ⟨x0, x1, x2, x3, x4, x5, x6, x7, x8, x9, x10, x11⟩ := (HX.out.below Hb2.out (by have := Hs0.out; omega)).ddl
  cases b1
  · go_wp2_with fail
    go_ret
    exact ⟨by rw [HE.out]; rfl, bthen HbW.out Hb2.out⟩
  go_wp2_with fail
  go_ret
  exact ⟨by rw [HE.out]; rfl, bthen HbW.out Hb2.out⟩
set_option maxRecDepth 100000 in
set_option maxHeartbeats 3200000 in
theorem rcan3_any (tb co to2 ke : ByteArray) (tk tm : Int) (nl : Bool) (dk dn : Int) (ds : ByteArray) (cols : List Cb) (A : Option Addr) (cap : Nat) (w : World) (hA : DdlAt w w.heap.size (⟨⟨3, tb, co, to2, ke, tk, tm, nl, dk, dn, ds, cols⟩, A, cap⟩ : Db)) (hP : WfP ((⟨⟨3, tb, co, to2, ke, tk, tm, nl, dk, dn, ds, cols⟩, A, cap⟩ : Db)).p) :
    Calls Tryz.prog 10 #[DV (⟨⟨3, tb, co, to2, ke, tk, tm, nl, dk, dn, ds, cols⟩, A, cap⟩ : Db)] w fun e w' => e = .returned (.bool (canD ((⟨⟨3, tb, co, to2, ke, tk, tm, nl, dk, dn, ds, cols⟩, A, cap⟩ : Db)).p)) ∧ Below w.heap.size w w' := by
  obtain ⟨w0, hw0, hb0, hX, hs0⟩ := box_d10 w (⟨⟨3, tb, co, to2, ke, tk, tm, nl, dk, dn, ds, cols⟩, A, cap⟩ : Db)
  have Hw0 := Lib.hid hw0; clear hw0
  have HbW := Lib.hid hb0
  have HX := Lib.hid hX; clear hX
  have Hs0 := Lib.hid hs0; clear hs0
  have HA := Lib.hid (hA.to hb0); clear hb0 hA
  obtain ⟨h1, h2, h3, h4, h5, ⟨h6, h7⟩, h8, h9⟩ := hP
  have H9 := Lib.hid h9; clear h9
  have HP := Lib.hid (fun w' h => rplain_any (⟨⟨3, tb, co, to2, ke, tk, tm, nl, dk, dn, ds, cols⟩, A, cap⟩ : Db) w' h h8)
  have HTb := Lib.hid (fun w => nrightB tb w h1)
  have HCo := Lib.hid (fun w => nrightB co w h2)
  have HTo := Lib.hid (fun w => nrightB to2 w h3)
  have HKe := Lib.hid (fun w => nrightB ke w h4)
  have HR := Lib.hid (fun w => trright_any tk tm w)
  have HV := Lib.hid (fun w => vrright_any dk dn ds w h6 h7)
  have HE : Hid (canD ((⟨⟨3, tb, co, to2, ke, tk, tm, nl, dk, dn, ds, cols⟩, A, cap⟩ : Db)).p = (plainD ((⟨⟨3, tb, co, to2, ke, tk, tm, nl, dk, dn, ds, cols⟩, A, cap⟩ : Db)).p && (rightN (bs tb) && rightN (bs to2)))) := rfl
  generalize canD ((⟨⟨3, tb, co, to2, ke, tk, tm, nl, dk, dn, ds, cols⟩, A, cap⟩ : Db)).p = V at HE ⊢
  generalize plainD ((⟨⟨3, tb, co, to2, ke, tk, tm, nl, dk, dn, ds, cols⟩, A, cap⟩ : Db)).p = pl at HP HE
  generalize rightN (bs tb) = b1 at HTb HE
  have h8 : cols.length ≤ 1000000 := h8
  clear h1 h2 h3 h4 h5 h6 h7
  try clear x0 x1 x2 x3 x4 x5 x6 x7 x8 x9 x10 x11
  obtain ⟨x0, x1, x2, x3, x4, x5, x6, x7, x8, x9, x10, x11⟩ := HX.out.ddl
  go_enter Tryz.func10, Tryz.ntmps10
  go_wp2_with fail
  try rw [Hw0.out]
  refine (HP.out w0 (HA.out.to (Below.refl _ _))).mono ?_
  rintro e w1 ⟨rfl, hb⟩
  have Hb1 := Lib.hid hb
  clear hb
  try clear x0 x1 x2 x3 x4 x5 x6 x7 x8 x9 x10 x11
  obtain ⟨x0, x1, x2, x3, x4, x5, x6, x7, x8, x9, x10, x11⟩ := (HX.out.below Hb1.out (by have := Hs0.out; omega)).ddl
  cases pl
  · go_wp2_with fail
    go_ret
    exact ⟨by rw [HE.out]; rfl, bthen HbW.out Hb1.out⟩
  go_wp2_with fail
  refine (HTb.out w1).mono ?_
  rintro e w2 ⟨rfl, hb⟩
  have Hb2 := Lib.hid (bthen Hb1.out hb)
  clear hb
  try clear x0 x1 x2 x3 x4 x5 x6 x7 x8 x9 x10 x11
  obtain ⟨x0, x1, x2, x3, x4, x5, x6, x7, x8, x9, x10, x11⟩ := (HX.out.below Hb2.out (by have := Hs0.out; omega)).ddl
  cases b1
  · go_wp2_with fail
    go_ret
    exact ⟨by rw [HE.out]; rfl, bthen HbW.out Hb2.out⟩
  go_wp2_with fail
  generalize rightN (bs to2) = c0 at HTo HE
  refine (HTo.out w2).mono ?_
  rintro e w3 ⟨rfl, hb⟩
  have Hb3 := Lib.hid (bthen Hb2.out hb)
  clear hb
  try clear x0 x1 x2 x3 x4 x5 x6 x7 x8 x9 x10 x11
  obtain ⟨x0, x1, x2, x3, x4, x5, x6, x7, x8, x9, x10, x11⟩ := (HX.out.below Hb3.out (by have := Hs0.out; omega)).ddl
  go_wp2_with fail
  go_ret
  exact ⟨by rw [HE.out]; rfl, bthen HbW.out Hb3.out⟩
set_option maxRecDepth 100000 in
set_option maxHeartbeats 3200000 in
theorem rcan4_any (tb co to2 ke : ByteArray) (tk tm : Int) (nl : Bool) (dk dn : Int) (ds : ByteArray) (cols : List Cb) (A : Option Addr) (cap : Nat) (w : World) (hA : DdlAt w w.heap.size (⟨⟨4, tb, co, to2, ke, tk, tm, nl, dk, dn, ds, cols⟩, A, cap⟩ : Db)) (hP : WfP ((⟨⟨4, tb, co, to2, ke, tk, tm, nl, dk, dn, ds, cols⟩, A, cap⟩ : Db)).p) :
    Calls Tryz.prog 10 #[DV (⟨⟨4, tb, co, to2, ke, tk, tm, nl, dk, dn, ds, cols⟩, A, cap⟩ : Db)] w fun e w' => e = .returned (.bool (canD ((⟨⟨4, tb, co, to2, ke, tk, tm, nl, dk, dn, ds, cols⟩, A, cap⟩ : Db)).p)) ∧ Below w.heap.size w w' := by
  obtain ⟨w0, hw0, hb0, hX, hs0⟩ := box_d10 w (⟨⟨4, tb, co, to2, ke, tk, tm, nl, dk, dn, ds, cols⟩, A, cap⟩ : Db)
  have Hw0 := Lib.hid hw0; clear hw0
  have HbW := Lib.hid hb0
  have HX := Lib.hid hX; clear hX
  have Hs0 := Lib.hid hs0; clear hs0
  have HA := Lib.hid (hA.to hb0); clear hb0 hA
  obtain ⟨h1, h2, h3, h4, h5, ⟨h6, h7⟩, h8, h9⟩ := hP
  have H9 := Lib.hid h9; clear h9
  have HP := Lib.hid (fun w' h => rplain_any (⟨⟨4, tb, co, to2, ke, tk, tm, nl, dk, dn, ds, cols⟩, A, cap⟩ : Db) w' h h8)
  have HTb := Lib.hid (fun w => nrightB tb w h1)
  have HCo := Lib.hid (fun w => nrightB co w h2)
  have HTo := Lib.hid (fun w => nrightB to2 w h3)
  have HKe := Lib.hid (fun w => nrightB ke w h4)
  have HR := Lib.hid (fun w => trright_any tk tm w)
  have HV := Lib.hid (fun w => vrright_any dk dn ds w h6 h7)
  have HE : Hid (canD ((⟨⟨4, tb, co, to2, ke, tk, tm, nl, dk, dn, ds, cols⟩, A, cap⟩ : Db)).p = (plainD ((⟨⟨4, tb, co, to2, ke, tk, tm, nl, dk, dn, ds, cols⟩, A, cap⟩ : Db)).p && (rightN (bs tb) && (rightN (bs co) && (rightT tk tm && rightV dk dn (bs ds)))))) := rfl
  generalize canD ((⟨⟨4, tb, co, to2, ke, tk, tm, nl, dk, dn, ds, cols⟩, A, cap⟩ : Db)).p = V at HE ⊢
  generalize plainD ((⟨⟨4, tb, co, to2, ke, tk, tm, nl, dk, dn, ds, cols⟩, A, cap⟩ : Db)).p = pl at HP HE
  generalize rightN (bs tb) = b1 at HTb HE
  have h8 : cols.length ≤ 1000000 := h8
  clear h1 h2 h3 h4 h5 h6 h7
  try clear x0 x1 x2 x3 x4 x5 x6 x7 x8 x9 x10 x11
  obtain ⟨x0, x1, x2, x3, x4, x5, x6, x7, x8, x9, x10, x11⟩ := HX.out.ddl
  go_enter Tryz.func10, Tryz.ntmps10
  go_wp2_with fail
  try rw [Hw0.out]
  refine (HP.out w0 (HA.out.to (Below.refl _ _))).mono ?_
  rintro e w1 ⟨rfl, hb⟩
  have Hb1 := Lib.hid hb
  clear hb
  try clear x0 x1 x2 x3 x4 x5 x6 x7 x8 x9 x10 x11
  obtain ⟨x0, x1, x2, x3, x4, x5, x6, x7, x8, x9, x10, x11⟩ := (HX.out.below Hb1.out (by have := Hs0.out; omega)).ddl
  cases pl
  · go_wp2_with fail
    go_ret
    exact ⟨by rw [HE.out]; rfl, bthen HbW.out Hb1.out⟩
  go_wp2_with fail
  refine (HTb.out w1).mono ?_
  rintro e w2 ⟨rfl, hb⟩
  have Hb2 := Lib.hid (bthen Hb1.out hb)
  clear hb
  try clear x0 x1 x2 x3 x4 x5 x6 x7 x8 x9 x10 x11
  obtain ⟨x0, x1, x2, x3, x4, x5, x6, x7, x8, x9, x10, x11⟩ := (HX.out.below Hb2.out (by have := Hs0.out; omega)).ddl
  cases b1
  · go_wp2_with fail
    go_ret
    exact ⟨by rw [HE.out]; rfl, bthen HbW.out Hb2.out⟩
  go_wp2_with fail
  generalize rightN (bs co) = c0 at HCo HE
  refine (HCo.out w2).mono ?_
  rintro e w3 ⟨rfl, hb⟩
  have Hb3 := Lib.hid (bthen Hb2.out hb)
  clear hb
  try clear x0 x1 x2 x3 x4 x5 x6 x7 x8 x9 x10 x11
  obtain ⟨x0, x1, x2, x3, x4, x5, x6, x7, x8, x9, x10, x11⟩ := (HX.out.below Hb3.out (by have := Hs0.out; omega)).ddl
  cases c0
  · go_wp2_with fail
    go_ret
    exact ⟨by rw [HE.out]; rfl, bthen HbW.out Hb3.out⟩
  go_wp2_with fail
  generalize rightT tk tm = c1 at HR HE
  refine (HR.out w3).mono ?_
  rintro e w4 ⟨rfl, hb⟩
  have Hb4 := Lib.hid (bthen Hb3.out hb)
  clear hb
  try clear x0 x1 x2 x3 x4 x5 x6 x7 x8 x9 x10 x11
  obtain ⟨x0, x1, x2, x3, x4, x5, x6, x7, x8, x9, x10, x11⟩ := (HX.out.below Hb4.out (by have := Hs0.out; omega)).ddl
  cases c1
  · go_wp2_with fail
    go_ret
    exact ⟨by rw [HE.out]; rfl, bthen HbW.out Hb4.out⟩
  go_wp2_with fail
  generalize rightV dk dn (bs ds) = c2 at HV HE
  refine (HV.out w4).mono ?_
  rintro e w5 ⟨rfl, hb⟩
  have Hb5 := Lib.hid (bthen Hb4.out hb)
  clear hb
  try clear x0 x1 x2 x3 x4 x5 x6 x7 x8 x9 x10 x11
  obtain ⟨x0, x1, x2, x3, x4, x5, x6, x7, x8, x9, x10, x11⟩ := (HX.out.below Hb5.out (by have := Hs0.out; omega)).ddl
  go_wp2_with fail
  go_ret
  exact ⟨by rw [HE.out]; rfl, bthen HbW.out Hb5.out⟩
set_option maxRecDepth 100000 in
set_option maxHeartbeats 3200000 in
theorem rcan5_any (tb co to2 ke : ByteArray) (tk tm : Int) (nl : Bool) (dk dn : Int) (ds : ByteArray) (cols : List Cb) (A : Option Addr) (cap : Nat) (w : World) (hA : DdlAt w w.heap.size (⟨⟨5, tb, co, to2, ke, tk, tm, nl, dk, dn, ds, cols⟩, A, cap⟩ : Db)) (hP : WfP ((⟨⟨5, tb, co, to2, ke, tk, tm, nl, dk, dn, ds, cols⟩, A, cap⟩ : Db)).p) :
    Calls Tryz.prog 10 #[DV (⟨⟨5, tb, co, to2, ke, tk, tm, nl, dk, dn, ds, cols⟩, A, cap⟩ : Db)] w fun e w' => e = .returned (.bool (canD ((⟨⟨5, tb, co, to2, ke, tk, tm, nl, dk, dn, ds, cols⟩, A, cap⟩ : Db)).p)) ∧ Below w.heap.size w w' := by
  obtain ⟨w0, hw0, hb0, hX, hs0⟩ := box_d10 w (⟨⟨5, tb, co, to2, ke, tk, tm, nl, dk, dn, ds, cols⟩, A, cap⟩ : Db)
  have Hw0 := Lib.hid hw0; clear hw0
  have HbW := Lib.hid hb0
  have HX := Lib.hid hX; clear hX
  have Hs0 := Lib.hid hs0; clear hs0
  have HA := Lib.hid (hA.to hb0); clear hb0 hA
  obtain ⟨h1, h2, h3, h4, h5, ⟨h6, h7⟩, h8, h9⟩ := hP
  have H9 := Lib.hid h9; clear h9
  have HP := Lib.hid (fun w' h => rplain_any (⟨⟨5, tb, co, to2, ke, tk, tm, nl, dk, dn, ds, cols⟩, A, cap⟩ : Db) w' h h8)
  have HTb := Lib.hid (fun w => nrightB tb w h1)
  have HCo := Lib.hid (fun w => nrightB co w h2)
  have HTo := Lib.hid (fun w => nrightB to2 w h3)
  have HKe := Lib.hid (fun w => nrightB ke w h4)
  have HR := Lib.hid (fun w => trright_any tk tm w)
  have HV := Lib.hid (fun w => vrright_any dk dn ds w h6 h7)
  have HE : Hid (canD ((⟨⟨5, tb, co, to2, ke, tk, tm, nl, dk, dn, ds, cols⟩, A, cap⟩ : Db)).p = (plainD ((⟨⟨5, tb, co, to2, ke, tk, tm, nl, dk, dn, ds, cols⟩, A, cap⟩ : Db)).p && (rightN (bs tb) && rightN (bs co)))) := rfl
  generalize canD ((⟨⟨5, tb, co, to2, ke, tk, tm, nl, dk, dn, ds, cols⟩, A, cap⟩ : Db)).p = V at HE ⊢
  generalize plainD ((⟨⟨5, tb, co, to2, ke, tk, tm, nl, dk, dn, ds, cols⟩, A, cap⟩ : Db)).p = pl at HP HE
  generalize rightN (bs tb) = b1 at HTb HE
  have h8 : cols.length ≤ 1000000 := h8
  clear h1 h2 h3 h4 h5 h6 h7
  try clear x0 x1 x2 x3 x4 x5 x6 x7 x8 x9 x10 x11
  obtain ⟨x0, x1, x2, x3, x4, x5, x6, x7, x8, x9, x10, x11⟩ := HX.out.ddl
  go_enter Tryz.func10, Tryz.ntmps10
  go_wp2_with fail
  try rw [Hw0.out]
  refine (HP.out w0 (HA.out.to (Below.refl _ _))).mono ?_
  rintro e w1 ⟨rfl, hb⟩
  have Hb1 := Lib.hid hb
  clear hb
  try clear x0 x1 x2 x3 x4 x5 x6 x7 x8 x9 x10 x11
  obtain ⟨x0, x1, x2, x3, x4, x5, x6, x7, x8, x9, x10, x11⟩ := (HX.out.below Hb1.out (by have := Hs0.out; omega)).ddl
  cases pl
  · go_wp2_with fail
    go_ret
    exact ⟨by rw [HE.out]; rfl, bthen HbW.out Hb1.out⟩
  go_wp2_with fail
  refine (HTb.out w1).mono ?_
  rintro e w2 ⟨rfl, hb⟩
  have Hb2 := Lib.hid (bthen Hb1.out hb)
  clear hb
  try clear x0 x1 x2 x3 x4 x5 x6 x7 x8 x9 x10 x11
  obtain ⟨x0, x1, x2, x3, x4, x5, x6, x7, x8, x9, x10, x11⟩ := (HX.out.below Hb2.out (by have := Hs0.out; omega)).ddl
  cases b1
  · go_wp2_with fail
    go_ret
    exact ⟨by rw [HE.out]; rfl, bthen HbW.out Hb2.out⟩
  go_wp2_with fail
  generalize rightN (bs co) = c0 at HCo HE
  refine (HCo.out w2).mono ?_
  rintro e w3 ⟨rfl, hb⟩
  have Hb3 := Lib.hid (bthen Hb2.out hb)
  clear hb
  try clear x0 x1 x2 x3 x4 x5 x6 x7 x8 x9 x10 x11
  obtain ⟨x0, x1, x2, x3, x4, x5, x6, x7, x8, x9, x10, x11⟩ := (HX.out.below Hb3.out (by have := Hs0.out; omega)).ddl
  go_wp2_with fail
  go_ret
  exact ⟨by rw [HE.out]; rfl, bthen HbW.out Hb3.out⟩
set_option maxRecDepth 100000 in
set_option maxHeartbeats 3200000 in
theorem rcan6_any (tb co to2 ke : ByteArray) (tk tm : Int) (nl : Bool) (dk dn : Int) (ds : ByteArray) (cols : List Cb) (A : Option Addr) (cap : Nat) (w : World) (hA : DdlAt w w.heap.size (⟨⟨6, tb, co, to2, ke, tk, tm, nl, dk, dn, ds, cols⟩, A, cap⟩ : Db)) (hP : WfP ((⟨⟨6, tb, co, to2, ke, tk, tm, nl, dk, dn, ds, cols⟩, A, cap⟩ : Db)).p) :
    Calls Tryz.prog 10 #[DV (⟨⟨6, tb, co, to2, ke, tk, tm, nl, dk, dn, ds, cols⟩, A, cap⟩ : Db)] w fun e w' => e = .returned (.bool (canD ((⟨⟨6, tb, co, to2, ke, tk, tm, nl, dk, dn, ds, cols⟩, A, cap⟩ : Db)).p)) ∧ Below w.heap.size w w' := by
  obtain ⟨w0, hw0, hb0, hX, hs0⟩ := box_d10 w (⟨⟨6, tb, co, to2, ke, tk, tm, nl, dk, dn, ds, cols⟩, A, cap⟩ : Db)
  have Hw0 := Lib.hid hw0; clear hw0
  have HbW := Lib.hid hb0
  have HX := Lib.hid hX; clear hX
  have Hs0 := Lib.hid hs0; clear hs0
  have HA := Lib.hid (hA.to hb0); clear hb0 hA
  obtain ⟨h1, h2, h3, h4, h5, ⟨h6, h7⟩, h8, h9⟩ := hP
  have H9 := Lib.hid h9; clear h9
  have HP := Lib.hid (fun w' h => rplain_any (⟨⟨6, tb, co, to2, ke, tk, tm, nl, dk, dn, ds, cols⟩, A, cap⟩ : Db) w' h h8)
  have HTb := Lib.hid (fun w => nrightB tb w h1)
  have HCo := Lib.hid (fun w => nrightB co w h2)
  have HTo := Lib.hid (fun w => nrightB to2 w h3)
  have HKe := Lib.hid (fun w => nrightB ke w h4)
  have HR := Lib.hid (fun w => trright_any tk tm w)
  have HV := Lib.hid (fun w => vrright_any dk dn ds w h6 h7)
  have HE : Hid (canD ((⟨⟨6, tb, co, to2, ke, tk, tm, nl, dk, dn, ds, cols⟩, A, cap⟩ : Db)).p = (plainD ((⟨⟨6, tb, co, to2, ke, tk, tm, nl, dk, dn, ds, cols⟩, A, cap⟩ : Db)).p && (rightN (bs tb) && (rightN (bs co) && rightN (bs to2))))) := rfl
  generalize canD ((⟨⟨6, tb, co, to2, ke, tk, tm, nl, dk, dn, ds, cols⟩, A, cap⟩ : Db)).p = V at HE ⊢
  generalize plainD ((⟨⟨6, tb, co, to2, ke, tk, tm, nl, dk, dn, ds, cols⟩, A, cap⟩ : Db)).p = pl at HP HE
  generalize rightN (bs tb) = b1 at HTb HE
  have h8 : cols.length ≤ 1000000 := h8
  clear h1 h2 h3 h4 h5 h6 h7
  try clear x0 x1 x2 x3 x4 x5 x6 x7 x8 x9 x10 x11
  obtain ⟨x0, x1, x2, x3, x4, x5, x6, x7, x8, x9, x10, x11⟩ := HX.out.ddl
  go_enter Tryz.func10, Tryz.ntmps10
  go_wp2_with fail
  try rw [Hw0.out]
  refine (HP.out w0 (HA.out.to (Below.refl _ _))).mono ?_
  rintro e w1 ⟨rfl, hb⟩
  have Hb1 := Lib.hid hb
  clear hb
  try clear x0 x1 x2 x3 x4 x5 x6 x7 x8 x9 x10 x11
  obtain ⟨x0, x1, x2, x3, x4, x5, x6, x7, x8, x9, x10, x11⟩ := (HX.out.below Hb1.out (by have := Hs0.out; omega)).ddl
  cases pl
  · go_wp2_with fail
    go_ret
    exact ⟨by rw [HE.out]; rfl, bthen HbW.out Hb1.out⟩
  go_wp2_with fail
  refine (HTb.out w1).mono ?_
  rintro e w2 ⟨rfl, hb⟩
  have Hb2 := Lib.hid (bthen Hb1.out hb)
  clear hb
  try clear x0 x1 x2 x3 x4 x5 x6 x7 x8 x9 x10 x11
  obtain ⟨x0, x1, x2, x3, x4, x5, x6, x7, x8, x9, x10, x11⟩ := (HX.out.below Hb2.out (by have := Hs0.out; omega)).ddl
  cases b1
  · go_wp2_with fail
    go_ret
    exact ⟨by rw [HE.out]; rfl, bthen HbW.out Hb2.out⟩
  go_wp2_with fail
  generalize rightN (bs co) = c0 at HCo HE
  refine (HCo.out w2).mono ?_
  rintro e w3 ⟨rfl, hb⟩
  have Hb3 := Lib.hid (bthen Hb2.out hb)
  clear hb
  try clear x0 x1 x2 x3 x4 x5 x6 x7 x8 x9 x10 x11
  obtain ⟨x0, x1, x2, x3, x4, x5, x6, x7, x8, x9, x10, x11⟩ := (HX.out.below Hb3.out (by have := Hs0.out; omega)).ddl
  cases c0
  · go_wp2_with fail
    go_ret
    exact ⟨by rw [HE.out]; rfl, bthen HbW.out Hb3.out⟩
  go_wp2_with fail
  generalize rightN (bs to2) = c1 at HTo HE
  refine (HTo.out w3).mono ?_
  rintro e w4 ⟨rfl, hb⟩
  have Hb4 := Lib.hid (bthen Hb3.out hb)
  clear hb
  try clear x0 x1 x2 x3 x4 x5 x6 x7 x8 x9 x10 x11
  obtain ⟨x0, x1, x2, x3, x4, x5, x6, x7, x8, x9, x10, x11⟩ := (HX.out.below Hb4.out (by have := Hs0.out; omega)).ddl
  go_wp2_with fail
  go_ret
  exact ⟨by rw [HE.out]; rfl, bthen HbW.out Hb4.out⟩
set_option maxRecDepth 100000 in
set_option maxHeartbeats 3200000 in
theorem rcan7_any (tb co to2 ke : ByteArray) (tk tm : Int) (nl : Bool) (dk dn : Int) (ds : ByteArray) (cols : List Cb) (A : Option Addr) (cap : Nat) (w : World) (hA : DdlAt w w.heap.size (⟨⟨7, tb, co, to2, ke, tk, tm, nl, dk, dn, ds, cols⟩, A, cap⟩ : Db)) (hP : WfP ((⟨⟨7, tb, co, to2, ke, tk, tm, nl, dk, dn, ds, cols⟩, A, cap⟩ : Db)).p) :
    Calls Tryz.prog 10 #[DV (⟨⟨7, tb, co, to2, ke, tk, tm, nl, dk, dn, ds, cols⟩, A, cap⟩ : Db)] w fun e w' => e = .returned (.bool (canD ((⟨⟨7, tb, co, to2, ke, tk, tm, nl, dk, dn, ds, cols⟩, A, cap⟩ : Db)).p)) ∧ Below w.heap.size w w' := by
  obtain ⟨w0, hw0, hb0, hX, hs0⟩ := box_d10 w (⟨⟨7, tb, co, to2, ke, tk, tm, nl, dk, dn, ds, cols⟩, A, cap⟩ : Db)
  have Hw0 := Lib.hid hw0; clear hw0
  have HbW := Lib.hid hb0
  have HX := Lib.hid hX; clear hX
  have Hs0 := Lib.hid hs0; clear hs0
  have HA := Lib.hid (hA.to hb0); clear hb0 hA
  obtain ⟨h1, h2, h3, h4, h5, ⟨h6, h7⟩, h8, h9⟩ := hP
  have H9 := Lib.hid h9; clear h9
  have HP := Lib.hid (fun w' h => rplain_any (⟨⟨7, tb, co, to2, ke, tk, tm, nl, dk, dn, ds, cols⟩, A, cap⟩ : Db) w' h h8)
  have HTb := Lib.hid (fun w => nrightB tb w h1)
  have HCo := Lib.hid (fun w => nrightB co w h2)
  have HTo := Lib.hid (fun w => nrightB to2 w h3)
  have HKe := Lib.hid (fun w => nrightB ke w h4)
  have HR := Lib.hid (fun w => trright_any tk tm w)
  have HV := Lib.hid (fun w => vrright_any dk dn ds w h6 h7)
  have HE : Hid (canD ((⟨⟨7, tb, co, to2, ke, tk, tm, nl, dk, dn, ds, cols⟩, A, cap⟩ : Db)).p = (plainD ((⟨⟨7, tb, co, to2, ke, tk, tm, nl, dk, dn, ds, cols⟩, A, cap⟩ : Db)).p && (rightN (bs tb) && (rightN (bs co) && rightT tk tm)))) := rfl
  generalize canD ((⟨⟨7, tb, co, to2, ke, tk, tm, nl, dk, dn, ds, cols⟩, A, cap⟩ : Db)).p = V at HE ⊢
  generalize plainD ((⟨⟨7, tb, co, to2, ke, tk, tm, nl, dk, dn, ds, cols⟩, A, cap⟩ : Db)).p = pl at HP HE
  generalize rightN (bs tb) = b1 at HTb HE
  have h8 : cols.length ≤ 1000000 := h8
  clear h1 h2 h3 h4 h5 h6 h7
  try clear x0 x1 x2 x3 x4 x5 x6 x7 x8 x9 x10 x11
  obtain ⟨x0, x1, x2, x3, x4, x5, x6, x7, x8, x9, x10, x11⟩ := HX.out.ddl
  go_enter Tryz.func10, Tryz.ntmps10
  go_wp2_with fail
  try rw [Hw0.out]
  refine (HP.out w0 (HA.out.to (Below.refl _ _))).mono ?_
  rintro e w1 ⟨rfl, hb⟩
  have Hb1 := Lib.hid hb
  clear hb
  try clear x0 x1 x2 x3 x4 x5 x6 x7 x8 x9 x10 x11
  obtain ⟨x0, x1, x2, x3, x4, x5, x6, x7, x8, x9, x10, x11⟩ := (HX.out.below Hb1.out (by have := Hs0.out; omega)).ddl
  cases pl
  · go_wp2_with fail
    go_ret
    exact ⟨by rw [HE.out]; rfl, bthen HbW.out Hb1.out⟩
  go_wp2_with fail
  refine (HTb.out w1).mono ?_
  rintro e w2 ⟨rfl, hb⟩
  have Hb2 := Lib.hid (bthen Hb1.out hb)
  clear hb
  try clear x0 x1 x2 x3 x4 x5 x6 x7 x8 x9 x10 x11
  obtain ⟨x0, x1, x2, x3, x4, x5, x6, x7, x8, x9, x10, x11⟩ := (HX.out.below Hb2.out (by have := Hs0.out; omega)).ddl
  cases b1
  · go_wp2_with fail
    go_ret
    exact ⟨by rw [HE.out]; rfl, bthen HbW.out Hb2.out⟩
  go_wp2_with fail
  generalize rightN (bs co) = c0 at HCo HE
  refine (HCo.out w2).mono ?_
  rintro e w3 ⟨rfl, hb⟩
  have Hb3 := Lib.hid (bthen Hb2.out hb)
  clear hb
  try clear x0 x1 x2 x3 x4 x5 x6 x7 x8 x9 x10 x11
  obtain ⟨x0, x1, x2, x3, x4, x5, x6, x7, x8, x9, x10, x11⟩ := (HX.out.below Hb3.out (by have := Hs0.out; omega)).ddl
  cases c0
  · go_wp2_with fail
    go_ret
    exact ⟨by rw [HE.out]; rfl, bthen HbW.out Hb3.out⟩
  go_wp2_with fail
  generalize rightT tk tm = c1 at HR HE
  refine (HR.out w3).mono ?_
  rintro e w4 ⟨rfl, hb⟩
  have Hb4 := Lib.hid (bthen Hb3.out hb)
  clear hb
  try clear x0 x1 x2 x3 x4 x5 x6 x7 x8 x9 x10 x11
  obtain ⟨x0, x1, x2, x3, x4, x5, x6, x7, x8, x9, x10, x11⟩ := (HX.out.below Hb4.out (by have := Hs0.out; omega)).ddl
  go_wp2_with fail
  go_ret
  exact ⟨by rw [HE.out]; rfl, bthen HbW.out Hb4.out⟩
set_option maxRecDepth 100000 in
set_option maxHeartbeats 3200000 in
theorem rcan8_any (tb co to2 ke : ByteArray) (tk tm : Int) (nl : Bool) (dk dn : Int) (ds : ByteArray) (cols : List Cb) (A : Option Addr) (cap : Nat) (w : World) (hA : DdlAt w w.heap.size (⟨⟨8, tb, co, to2, ke, tk, tm, nl, dk, dn, ds, cols⟩, A, cap⟩ : Db)) (hP : WfP ((⟨⟨8, tb, co, to2, ke, tk, tm, nl, dk, dn, ds, cols⟩, A, cap⟩ : Db)).p) :
    Calls Tryz.prog 10 #[DV (⟨⟨8, tb, co, to2, ke, tk, tm, nl, dk, dn, ds, cols⟩, A, cap⟩ : Db)] w fun e w' => e = .returned (.bool (canD ((⟨⟨8, tb, co, to2, ke, tk, tm, nl, dk, dn, ds, cols⟩, A, cap⟩ : Db)).p)) ∧ Below w.heap.size w w' := by
  obtain ⟨w0, hw0, hb0, hX, hs0⟩ := box_d10 w (⟨⟨8, tb, co, to2, ke, tk, tm, nl, dk, dn, ds, cols⟩, A, cap⟩ : Db)
  have Hw0 := Lib.hid hw0; clear hw0
  have HbW := Lib.hid hb0
  have HX := Lib.hid hX; clear hX
  have Hs0 := Lib.hid hs0; clear hs0
  have HA := Lib.hid (hA.to hb0); clear hb0 hA
  obtain ⟨h1, h2, h3, h4, h5, ⟨h6, h7⟩, h8, h9⟩ := hP
  have H9 := Lib.hid h9; clear h9
  have HP := Lib.hid (fun w' h => rplain_any (⟨⟨8, tb, co, to2, ke, tk, tm, nl, dk, dn, ds, cols⟩, A, cap⟩ : Db) w' h h8)
  have HTb := Lib.hid (fun w => nrightB tb w h1)
  have HCo := Lib.hid (fun w => nrightB co w h2)
  have HTo := Lib.hid (fun w => nrightB to2 w h3)
  have HKe := Lib.hid (fun w => nrightB ke w h4)
  have HR := Lib.hid (fun w => trright_any tk tm w)
  have HV := Lib.hid (fun w => vrright_any dk dn ds w h6 h7)
  have HE : Hid (canD ((⟨⟨8, tb, co, to2, ke, tk, tm, nl, dk, dn, ds, cols⟩, A, cap⟩ : Db)).p = (plainD ((⟨⟨8, tb, co, to2, ke, tk, tm, nl, dk, dn, ds, cols⟩, A, cap⟩ : Db)).p && (rightN (bs tb) && (rightN (bs co) && rightV dk dn (bs ds))))) := rfl
  generalize canD ((⟨⟨8, tb, co, to2, ke, tk, tm, nl, dk, dn, ds, cols⟩, A, cap⟩ : Db)).p = V at HE ⊢
  generalize plainD ((⟨⟨8, tb, co, to2, ke, tk, tm, nl, dk, dn, ds, cols⟩, A, cap⟩ : Db)).p = pl at HP HE
  generalize rightN (bs tb) = b1 at HTb HE
  have h8 : cols.length ≤ 1000000 := h8
  clear h1 h2 h3 h4 h5 h6 h7
  try clear x0 x1 x2 x3 x4 x5 x6 x7 x8 x9 x10 x11
  obtain ⟨x0, x1, x2, x3, x4, x5, x6, x7, x8, x9, x10, x11⟩ := HX.out.ddl
  go_enter Tryz.func10, Tryz.ntmps10
  go_wp2_with fail
  try rw [Hw0.out]
  refine (HP.out w0 (HA.out.to (Below.refl _ _))).mono ?_
  rintro e w1 ⟨rfl, hb⟩
  have Hb1 := Lib.hid hb
  clear hb
  try clear x0 x1 x2 x3 x4 x5 x6 x7 x8 x9 x10 x11
  obtain ⟨x0, x1, x2, x3, x4, x5, x6, x7, x8, x9, x10, x11⟩ := (HX.out.below Hb1.out (by have := Hs0.out; omega)).ddl
  cases pl
  · go_wp2_with fail
    go_ret
    exact ⟨by rw [HE.out]; rfl, bthen HbW.out Hb1.out⟩
  go_wp2_with fail
  refine (HTb.out w1).mono ?_
  rintro e w2 ⟨rfl, hb⟩
  have Hb2 := Lib.hid (bthen Hb1.out hb)
  clear hb
  try clear x0 x1 x2 x3 x4 x5 x6 x7 x8 x9 x10 x11
  obtain ⟨x0, x1, x2, x3, x4, x5, x6, x7, x8, x9, x10, x11⟩ := (HX.out.below Hb2.out (by have := Hs0.out; omega)).ddl
  cases b1
  · go_wp2_with fail
    go_ret
    exact ⟨by rw [HE.out]; rfl, bthen HbW.out Hb2.out⟩
  go_wp2_with fail
  generalize rightN (bs co) = c0 at HCo HE
  refine (HCo.out w2).mono ?_
  rintro e w3 ⟨rfl, hb⟩
  have Hb3 := Lib.hid (bthen Hb2.out hb)
  clear hb
  try clear x0 x1 x2 x3 x4 x5 x6 x7 x8 x9 x10 x11
  obtain ⟨x0, x1, x2, x3, x4, x5, x6, x7, x8, x9, x10, x11⟩ := (HX.out.below Hb3.out (by have := Hs0.out; omega)).ddl
  cases c0
  · go_wp2_with fail
    go_ret
    exact ⟨by rw [HE.out]; rfl, bthen HbW.out Hb3.out⟩
  go_wp2_with fail
  generalize rightV dk dn (bs ds) = c1 at HV HE
  refine (HV.out w3).mono ?_
  rintro e w4 ⟨rfl, hb⟩
  have Hb4 := Lib.hid (bthen Hb3.out hb)
  clear hb
  try clear x0 x1 x2 x3 x4 x5 x6 x7 x8 x9 x10 x11
  obtain ⟨x0, x1, x2, x3, x4, x5, x6, x7, x8, x9, x10, x11⟩ := (HX.out.below Hb4.out (by have := Hs0.out; omega)).ddl
  go_wp2_with fail
  go_ret
  exact ⟨by rw [HE.out]; rfl, bthen HbW.out Hb4.out⟩
set_option maxRecDepth 100000 in
set_option maxHeartbeats 3200000 in
theorem rcan1_any (tb co to2 ke : ByteArray) (tk tm : Int) (nl : Bool) (dk dn : Int) (ds : ByteArray) (cols : List Cb) (A : Option Addr) (cap : Nat) (w : World) (hA : DdlAt w w.heap.size (⟨⟨1, tb, co, to2, ke, tk, tm, nl, dk, dn, ds, cols⟩, A, cap⟩ : Db)) (hP : WfP ((⟨⟨1, tb, co, to2, ke, tk, tm, nl, dk, dn, ds, cols⟩, A, cap⟩ : Db)).p) :
    Calls Tryz.prog 10 #[DV (⟨⟨1, tb, co, to2, ke, tk, tm, nl, dk, dn, ds, cols⟩, A, cap⟩ : Db)] w fun e w' => e = .returned (.bool (canD ((⟨⟨1, tb, co, to2, ke, tk, tm, nl, dk, dn, ds, cols⟩, A, cap⟩ : Db)).p)) ∧ Below w.heap.size w w' := by
  obtain ⟨w0, hw0, hb0, hX, hs0⟩ := box_d10 w (⟨⟨1, tb, co, to2, ke, tk, tm, nl, dk, dn, ds, cols⟩, A, cap⟩ : Db)
  have Hw0 := Lib.hid hw0; clear hw0
  have HbW := Lib.hid hb0
  have HX := Lib.hid hX; clear hX
  have Hs0 := Lib.hid hs0; clear hs0
  have HA := Lib.hid (hA.to hb0); clear hb0 hA
  obtain ⟨h1, h2, h3, h4, h5, ⟨h6, h7⟩, h8, h9⟩ := hP
  have H9 := Lib.hid h9; clear h9
  have HP := Lib.hid (fun w' h => rplain_any (⟨⟨1, tb, co, to2, ke, tk, tm, nl, dk, dn, ds, cols⟩, A, cap⟩ : Db) w' h h8)
  have HTb := Lib.hid (fun w => nrightB tb w h1)
  have HCo := Lib.hid (fun w => nrightB co w h2)
  have HTo := Lib.hid (fun w => nrightB to2 w h3)
  have HKe := Lib.hid (fun w => nrightB ke w h4)
  have HR := Lib.hid (fun w => trright_any tk tm w)
  have HV := Lib.hid (fun w => vrright_any dk dn ds w h6 h7)
  have HE : Hid (canD ((⟨⟨1, tb, co, to2, ke, tk, tm, nl, dk, dn, ds, cols⟩, A, cap⟩ : Db)).p = (plainD ((⟨⟨1, tb, co, to2, ke, tk, tm, nl, dk, dn, ds, cols⟩, A, cap⟩ : Db)).p && (rightN (bs tb) && (cols.all colOk && (rightN (bs ke) && (decide (1 ≤ cols.length) && decide (cols.length ≤ 10))))))) := rfl
  generalize canD ((⟨⟨1, tb, co, to2, ke, tk, tm, nl, dk, dn, ds, cols⟩, A, cap⟩ : Db)).p = V at HE ⊢
  generalize plainD ((⟨⟨1, tb, co, to2, ke, tk, tm, nl, dk, dn, ds, cols⟩, A, cap⟩ : Db)).p = pl at HP HE
  generalize rightN (bs tb) = b1 at HTb HE
  have h8 : cols.length ≤ 1000000 := h8
  clear h1 h2 h3 h4 h5 h6 h7
  try clear x0 x1 x2 x3 x4 x5 x6 x7 x8 x9 x10 x11
  obtain ⟨x0, x1, x2, x3, x4, x5, x6, x7, x8, x9, x10, x11⟩ := HX.out.ddl
  go_enter Tryz.func10, Tryz.ntmps10
  go_wp2_with fail
  try rw [Hw0.out]
  refine (HP.out w0 (HA.out.to (Below.refl _ _))).mono ?_
  rintro e w1 ⟨rfl, hb⟩
  have Hb1 := Lib.hid hb
  clear hb
  try clear x0 x1 x2 x3 x4 x5 x6 x7 x8 x9 x10 x11
  obtain ⟨x0, x1, x2, x3, x4, x5, x6, x7, x8, x9, x10, x11⟩ := (HX.out.below Hb1.out (by have := Hs0.out; omega)).ddl
  cases pl
  · go_wp2_with fail
    go_ret
    exact ⟨by rw [HE.out]; rfl, bthen HbW.out Hb1.out⟩
  go_wp2_with fail
  refine (HTb.out w1).mono ?_
  rintro e w2 ⟨rfl, hb⟩
  have Hb2 := Lib.hid (bthen Hb1.out hb)
  clear hb
  try clear x0 x1 x2 x3 x4 x5 x6 x7 x8 x9 x10 x11
  obtain ⟨x0, x1, x2, x3, x4, x5, x6, x7, x8, x9, x10, x11⟩ := (HX.out.below Hb2.out (by have := Hs0.out; omega)).ddl
  cases b1
  · go_wp2_with fail
    go_ret
    exact ⟨by rw [HE.out]; rfl, bthen HbW.out Hb2.out⟩
  go_wp2_with fail
  go_loopw [3] (fun i wr => ∃ k : Nat, k ≤ cols.length ∧ i = .int .i64 (k : Int) ∧ Hid (∀ j c, cols[j]? = some c → j < k → colOk c = true) ∧ Hid (Below w0.heap.size w0 wr)) (fun i _ => cols.length - (intOf i).toNat)
  case atStart => exact ⟨0, by omega, rfl, fun j c _ h => absurd h (by omega), Hb2.out⟩
  case round =>
    obtain ⟨k, hk, rfl, hall, hb⟩ := hrel
    clear x0 x1 x2 x3 x4 x5 x6 x7 x8 x9 x10 x11
    obtain ⟨x0, x1, x2, x3, x4, x5, x6, x7, x8, x9, x10, x11⟩ := (HX.out.below hb.out (by have := Hs0.out; omega)).ddl
    by_cases hlt : k < cols.length
    · obtain ⟨c, hc⟩ : ∃ c, cols[k]? = some c := ⟨cols[k], by simp [hlt]⟩
      have Hc := Lib.hid hc
      have HCK := Lib.hid (rcolok_any c wr (H9.out c (List.mem_of_getElem? hc)))
      obtain ⟨g, off, hAe, hgB, e0, e1, e2, e3, e4, e5, e6, e7⟩ := ColsAt.get (HA.out.to hb.out) k c hc
      rw [hAe] at x11
      have hltI : (k : Int) < (cols.length : Int) := by omega
      have h0k : (0 : Int) ≤ (k : Int) := by omega
      have hw1 : IntKind.i64.wrap ((k : Int) + 1) = (k : Int) + 1 := IntWalk.i64_in _ (by omega)
      clear hAe hc
      cases hz : colOk c
      · have HF : Hid (cols.all colOk = false) := by
          show _ = _
          rw [List.all_eq_false]
          exact ⟨c, List.mem_of_getElem? Hc.out, by rw [hz]; decide⟩
        rw [hz] at HCK
        clear hz
        go_wp2_with fail
        refine HCK.out.mono ?_
        rintro e w5 ⟨rfl, hb5⟩
        have Hb5 := Lib.hid (bthen hb.out hb5); clear hb5
        go_wp2_with fail
        go_ret
        exact ⟨by rw [HE.out, HF.out]; rfl, bthen HbW.out Hb5.out⟩
      · have Hz := Lib.hid hz
        rw [hz] at HCK
        clear hz
        go_wp2_with fail
        refine HCK.out.mono ?_
        rintro e w5 ⟨rfl, hb5⟩
        have Hb5 := Lib.hid (bthen hb.out hb5); clear hb5 x0 x1 x2 x3 x4 x5 x6 x7 x8 x9 x10 x11 e0 e1 e2 e3 e4 e5 e6 e7
        go_wp2_with fail
        go_roundw
        case rel =>
          refine ⟨k + 1, by omega, by go_num, fun j c' hj hjk => ?_, Hb5.out⟩
          by_cases h : j = k
          · subst h
            have := Hc.out
            rw [hj] at this
            cases this
            exact Hz.out
          · exact hall.out j c' hj (by omega)
        case measure => simp [intOf]; omega
    · obtain rfl : k = cols.length := by omega
      have HF : Hid (cols.all colOk = true) := by
        show _ = _
        rw [List.all_eq_true]
        intro c hc
        obtain ⟨j, hj, rfl⟩ := List.getElem_of_mem hc
        exact hall.out j _ (by simp [hj]) hj
      have hltI : ¬ ((cols.length : Int) < (cols.length : Int)) := by omega
      have HE2 : Hid (V = (rightN (bs ke) && (decide (1 ≤ cols.length) && decide (cols.length ≤ 10)))) := by show _ = _; rw [HE.out, HF.out]; rfl
      generalize rightN (bs ke) = c0 at HKe HE2
      have q1 : decide (1 ≤ cols.length) = decide ((1 : Int) ≤ (cols.length : Int)) := decide_eq_decide.2 (by omega)
      have q2 : decide (cols.length ≤ 10) = decide ((cols.length : Int) ≤ 10) := decide_eq_decide.2 (by omega)
      rw [q1, q2] at HE2
      clear q1 q2 hlt hall
      go_wp2_with fail
      refine (HKe.out _).mono ?_
      rintro e w5 ⟨rfl, hb5⟩
      have Hb5 := Lib.hid (bthen hb.out hb5); clear hb5 x0 x1 x2 x3 x4 x5 x6 x7 x8 x9 x10 x11
      obtain ⟨x0, x1, x2, x3, x4, x5, x6, x7, x8, x9, x10, x11⟩ := (HX.out.below Hb5.out (by have := Hs0.out; omega)).ddl
      cases c0
      · go_wp2_with fail
        go_ret
        exact ⟨by rw [HE2.out]; rfl, bthen HbW.out Hb5.out⟩
      · by_cases g1 : (1 : Int) ≤ (cols.length : Int)
        · have g1' : decide ((1 : Int) ≤ (cols.length : Int)) = true := by simpa using g1
          rw [g1'] at HE2
          go_wp2_with fail
          go_ret
          exact ⟨by rw [HE2.out]; rfl, bthen HbW.out Hb5.out⟩
        · have g1' : decide ((1 : Int) ≤ (cols.length : Int)) = false := by simpa using g1
          rw [g1'] at HE2
          go_wp2_with fail
          go_ret
          exact ⟨by rw [HE2.out]; rfl, bthen HbW.out Hb5.out⟩
theorem rcan_any (d : Db) (w : World) (hA : DdlAt w w.heap.size d) (hP : WfP d.p) :
    Calls Tryz.prog 10 #[DV d] w fun e w' => e = .returned (.bool (canD d.p)) ∧ Below w.heap.size w w' := by
  cases hp : plainD d.p
  · exact rcan0_any d w hA hP hp
  · have hop := plainD_op hp
    obtain ⟨⟨op, tb, co, to2, ke, tk, tm, nl, dk, dn, ds, cols⟩, A, cap⟩ := d
    have hop : 1 ≤ op ∧ op ≤ 8 := hop
    clear hp
    rcases (show op = 1 ∨ op = 2 ∨ op = 3 ∨ op = 4 ∨ op = 5 ∨ op = 6 ∨ op = 7 ∨ op = 8 by omega) with rfl | rfl | rfl | rfl | rfl | rfl | rfl | rfl
    · exact rcan1_any tb co to2 ke tk tm nl dk dn ds cols A cap w hA hP
    · exact rcan2_any tb co to2 ke tk tm nl dk dn ds cols A cap w hA hP
    · exact rcan3_any tb co to2 ke tk tm nl dk dn ds cols A cap w hA hP
    · exact rcan4_any tb co to2 ke tk tm nl dk dn ds cols A cap w hA hP
    · exact rcan5_any tb co to2 ke tk tm nl dk dn ds cols A cap w hA hP
    · exact rcan6_any tb co to2 ke tk tm nl dk dn ds cols A cap w hA hP
    · exact rcan7_any tb co to2 ke tk tm nl dk dn ds cols A cap w hA hP
    · exact rcan8_any tb co to2 ke tk tm nl dk dn ds cols A cap w hA hP
end Go.Proofs.YtebldfnocpcddaaGreatDoor
