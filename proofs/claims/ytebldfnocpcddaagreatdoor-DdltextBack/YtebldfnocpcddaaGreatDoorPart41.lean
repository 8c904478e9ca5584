/-
  Texts that the proof needs, one behind the other: DtxRPnC.
-/
import Derived.Deep.RegionHeld3
import Derived.Test.YtebldfnocpcddaaGreatDoorPart40

/-
  The document's own Print of changes (layer 10).
-/
namespace Go.Proofs.YtebldfnocpcddaaGreatDoor
open Go.RowKit

theorem colsX_snoc (B : List UInt8) : ∀ (l : List Cb) (c : Cb), l ≠ [] → colsX B (l ++ [c]) [] = colsX B l [] ++ (44 :: (B ++ colX B c []))
  | [], c, h => absurd rfl h
  | [a], c, _ => by
    show colX B a (44 :: (B ++ colX B c [])) = colX B a [] ++ _
    rw [colX_app]
  | a :: b :: q, c, _ => by
    have ih := colsX_snoc B (b :: q) c (by simp)
    show colX B a (44 :: (B ++ colsX B (b :: (q ++ [c])) [])) = colX B a (44 :: (B ++ colsX B (b :: q) [])) ++ _
    rw [colX_app B a (44 :: (B ++ colsX B (b :: (q ++ [c])) [])), colX_app B a (44 :: (B ++ colsX B (b :: q) []))]
    have ih2 : colsX B (b :: (q ++ [c])) [] = _ := ih
    rw [ih2]; simp
set_option maxRecDepth 100000 in
set_option maxHeartbeats 3200000 in
theorem rprn2_any (tb co to2 ke : ByteArray) (tk tm : Int) (nl : Bool) (dk dn : Int) (ds : ByteArray) (cols : List Cb) (A : Option Addr) (cap : Nat) (x : ByteArray) (w : World) (hA : DdlAt w w.heap.size (⟨⟨2, tb, co, to2, ke, tk, tm, nl, dk, dn, ds, cols⟩, A, cap⟩ : Db)) (hP : WfP ((⟨⟨2, tb, co, to2, ke, tk, tm, nl, dk, dn, ds, cols⟩, A, cap⟩ : Db)).p)
    (hc : canD ((⟨⟨2, tb, co, to2, ke, tk, tm, nl, dk, dn, ds, cols⟩, A, cap⟩ : Db)).p = true) (hx : bs x = dtx [32] ((⟨⟨2, tb, co, to2, ke, tk, tm, nl, dk, dn, ds, cols⟩, A, cap⟩ : Db)).p []) :
    Calls Tryz.prog 12 #[DV (⟨⟨2, tb, co, to2, ke, tk, tm, nl, dk, dn, ds, cols⟩, A, cap⟩ : Db)] w fun e w' => e = .returned (.string x) ∧ Below w.heap.size w w' := by
  have hc2 : (plainD ((⟨⟨2, tb, co, to2, ke, tk, tm, nl, dk, dn, ds, cols⟩, A, cap⟩ : Db)).p && (rightN (bs tb) && true)) = true := hc
  simp only [Bool.and_eq_true] at hc2
  obtain ⟨_, gtb, _⟩ := hc2
  have ltb : tb.size ≤ 16 := by rw [← bs_length]; exact (right_len gtb).2
  obtain ⟨w0, hw0, hb0, hX, hs0⟩ := box_d10 w (⟨⟨2, tb, co, to2, ke, tk, tm, nl, dk, dn, ds, cols⟩, A, cap⟩ : Db)
  have Hw0 := Lib.hid hw0; clear hw0
  have HbW := Lib.hid hb0
  have HX := Lib.hid hX; clear hX
  have Hs0 := Lib.hid hs0; clear hs0
  have HA := Lib.hid (hA.to hb0); clear hb0 hA hc
  obtain ⟨h1, h2, h3, h4, h5, ⟨h6, h7⟩, h8, h9⟩ := hP
  have h8 : cols.length ≤ 1000000 := h8
  have fin : Hid (∀ y : ByteArray, bs y = dtx [32] ((⟨⟨2, tb, co, to2, ke, tk, tm, nl, dk, dn, ds, cols⟩, A, cap⟩ : Db)).p [] → y = x) := fun y hy => bs_eq (by rw [hy, hx])
  obtain ⟨z0, e0, s0, q0⟩ := add_ex ⟨#[100, 114, 111, 112, 32]⟩ tb 5 16 (by decide) ltb (by omega)
  have HF : Hid (z0 = x) := fin.out z0 (by
    rw [e0]
    simp [dtx, opT]; try rfl)
  clear fin hx e0 s0 h1 h2 h3 h4 h5 h8 h9 h6 h7
  try clear x0 x1 x2 x3 x4 x5 x6 x7 x8 x9 x10 x11
  obtain ⟨x0, x1, x2, x3, x4, x5, x6, x7, x8, x9, x10, x11⟩ := HX.out.ddl
  go_enter Tryz.func12, Tryz.ntmps12
  go_wp2_with fail
  try rw [Hw0.out]
  try go_wp2_with fail
  go_ret
  exact ⟨by rw [← HF.out]; rfl, HbW.out⟩
set_option maxRecDepth 100000 in
set_option maxHeartbeats 3200000 in
theorem rprn3_any (tb co to2 ke : ByteArray) (tk tm : Int) (nl : Bool) (dk dn : Int) (ds : ByteArray) (cols : List Cb) (A : Option Addr) (cap : Nat) (x : ByteArray) (w : World) (hA : DdlAt w w.heap.size (⟨⟨3, tb, co, to2, ke, tk, tm, nl, dk, dn, ds, cols⟩, A, cap⟩ : Db)) (hP : WfP ((⟨⟨3, tb, co, to2, ke, tk, tm, nl, dk, dn, ds, cols⟩, A, cap⟩ : Db)).p)
    (hc : canD ((⟨⟨3, tb, co, to2, ke, tk, tm, nl, dk, dn, ds, cols⟩, A, cap⟩ : Db)).p = true) (hx : bs x = dtx [32] ((⟨⟨3, tb, co, to2, ke, tk, tm, nl, dk, dn, ds, cols⟩, A, cap⟩ : Db)).p []) :
    Calls Tryz.prog 12 #[DV (⟨⟨3, tb, co, to2, ke, tk, tm, nl, dk, dn, ds, cols⟩, A, cap⟩ : Db)] w fun e w' => e = .returned (.string x) ∧ Below w.heap.size w w' := by
  have hc2 : (plainD ((⟨⟨3, tb, co, to2, ke, tk, tm, nl, dk, dn, ds, cols⟩, A, cap⟩ : Db)).p && (rightN (bs tb) && rightN (bs to2))) = true := hc
  simp only [Bool.and_eq_true] at hc2
  obtain ⟨_, gtb, gto2⟩ := hc2
  have ltb : tb.size ≤ 16 := by rw [← bs_length]; exact (right_len gtb).2
  have lto2 : to2.size ≤ 16 := by rw [← bs_length]; exact (right_len gto2).2
  obtain ⟨w0, hw0, hb0, hX, hs0⟩ := box_d10 w (⟨⟨3, tb, co, to2, ke, tk, tm, nl, dk, dn, ds, cols⟩, A, cap⟩ : Db)
  have Hw0 := Lib.hid hw0; clear hw0
  have HbW := Lib.hid hb0
  have HX := Lib.hid hX; clear hX
  have Hs0 := Lib.hid hs0; clear hs0
  have HA := Lib.hid (hA.to hb0); clear hb0 hA hc
  obtain ⟨h1, h2, h3, h4, h5, ⟨h6, h7⟩, h8, h9⟩ := hP
  have h8 : cols.length ≤ 1000000 := h8
  have fin : Hid (∀ y : ByteArray, bs y = dtx [32] ((⟨⟨3, tb, co, to2, ke, tk, tm, nl, dk, dn, ds, cols⟩, A, cap⟩ : Db)).p [] → y = x) := fun y hy => bs_eq (by rw [hy, hx])
  obtain ⟨z0, e0, s0, q0⟩ := add_ex ⟨#[114, 101, 110, 97, 109, 101, 32]⟩ tb 7 16 (by decide) ltb (by omega)
  obtain ⟨z1, e1, s1, q1⟩ := add_ex z0 ⟨#[32, 116, 111, 32]⟩ 23 4 s0 (by decide) (by omega)
  obtain ⟨z2, e2, s2, q2⟩ := add_ex z1 to2 27 16 s1 lto2 (by omega)
  have HF : Hid (z2 = x) := fin.out z2 (by
    rw [e2, e1, e0]
    simp [dtx, opT, toT]; try rfl)
  clear fin hx e0 s0 e1 s1 e2 s2 h1 h2 h3 h4 h5 h8 h9 h6 h7
  try clear x0 x1 x2 x3 x4 x5 x6 x7 x8 x9 x10 x11
  obtain ⟨x0, x1, x2, x3, x4, x5, x6, x7, x8, x9, x10, x11⟩ := HX.out.ddl
  go_enter Tryz.func12, Tryz.ntmps12
  go_wp2_with fail
  try rw [Hw0.out]
  try go_wp2_with fail
  go_ret
  exact ⟨by rw [← HF.out]; rfl, HbW.out⟩
set_option maxRecDepth 100000 in
set_option maxHeartbeats 3200000 in
theorem rprn5_any (tb co to2 ke : ByteArray) (tk tm : Int) (nl : Bool) (dk dn : Int) (ds : ByteArray) (cols : List Cb) (A : Option Addr) (cap : Nat) (x : ByteArray) (w : World) (hA : DdlAt w w.heap.size (⟨⟨5, tb, co, to2, ke, tk, tm, nl, dk, dn, ds, cols⟩, A, cap⟩ : Db)) (hP : WfP ((⟨⟨5, tb, co, to2, ke, tk, tm, nl, dk, dn, ds, cols⟩, A, cap⟩ : Db)).p)
    (hc : canD ((⟨⟨5, tb, co, to2, ke, tk, tm, nl, dk, dn, ds, cols⟩, A, cap⟩ : Db)).p = true) (hx : bs x = dtx [32] ((⟨⟨5, tb, co, to2, ke, tk, tm, nl, dk, dn, ds, cols⟩, A, cap⟩ : Db)).p []) :
    Calls Tryz.prog 12 #[DV (⟨⟨5, tb, co, to2, ke, tk, tm, nl, dk, dn, ds, cols⟩, A, cap⟩ : Db)] w fun e w' => e = .returned (.string x) ∧ Below w.heap.size w w' := by
  have hc2 : (plainD ((⟨⟨5, tb, co, to2, ke, tk, tm, nl, dk, dn, ds, cols⟩, A, cap⟩ : Db)).p && (rightN (bs tb) && rightN (bs co))) = true := hc
  simp only [Bool.and_eq_true] at hc2
  obtain ⟨_, gtb, gco⟩ := hc2
  have ltb : tb.size ≤ 16 := by rw [← bs_length]; exact (right_len gtb).2
  have lco : co.size ≤ 16 := by rw [← bs_length]; exact (right_len gco).2
  obtain ⟨w0, hw0, hb0, hX, hs0⟩ := box_d10 w (⟨⟨5, tb, co, to2, ke, tk, tm, nl, dk, dn, ds, cols⟩, A, cap⟩ : Db)
  have Hw0 := Lib.hid hw0; clear hw0
  have HbW := Lib.hid hb0
  have HX := Lib.hid hX; clear hX
  have Hs0 := Lib.hid hs0; clear hs0
  have HA := Lib.hid (hA.to hb0); clear hb0 hA hc
  obtain ⟨h1, h2, h3, h4, h5, ⟨h6, h7⟩, h8, h9⟩ := hP
  have h8 : cols.length ≤ 1000000 := h8
  have fin : Hid (∀ y : ByteArray, bs y = dtx [32] ((⟨⟨5, tb, co, to2, ke, tk, tm, nl, dk, dn, ds, cols⟩, A, cap⟩ : Db)).p [] → y = x) := fun y hy => bs_eq (by rw [hy, hx])
  obtain ⟨z0, e0, s0, q0⟩ := add_ex ⟨#[99, 117, 116, 32]⟩ tb 4 16 (by decide) ltb (by omega)
  obtain ⟨z1, e1, s1, q1⟩ := add_ex z0 ⟨#[32]⟩ 20 1 s0 (by decide) (by omega)
  obtain ⟨z2, e2, s2, q2⟩ := add_ex z1 co 21 16 s1 lco (by omega)
  have HF : Hid (z2 = x) := fin.out z2 (by
    rw [e2, e1, e0]
    simp [dtx, opT]; try rfl)
  clear fin hx e0 s0 e1 s1 e2 s2 h1 h2 h3 h4 h5 h8 h9 h6 h7
  try clear x0 x1 x2 x3 x4 x5 x6 x7 x8 x9 x10 x11
  obtain ⟨x0, x1, x2, x3, x4, x5, x6, x7, x8, x9, x10, x11⟩ := HX.out.ddl
  go_enter Tryz.func12, Tryz.ntmps12
  go_wp2_with fail
  try rw [Hw0.out]
  try go_wp2_with fail
  go_ret
  exact ⟨by rw [← HF.out]; rfl, HbW.out⟩
set_option maxRecDepth 100000 in
set_option maxHeartbeats 3200000 in
theorem rprn6_any (tb co to2 ke : ByteArray) (tk tm : Int) (nl : Bool) (dk dn : Int) (ds : ByteArray) (cols : List Cb) (A : Option Addr) (cap : Nat) (x : ByteArray) (w : World) (hA : DdlAt w w.heap.size (⟨⟨6, tb, co, to2, ke, tk, tm, nl, dk, dn, ds, cols⟩, A, cap⟩ : Db)) (hP : WfP ((⟨⟨6, tb, co, to2, ke, tk, tm, nl, dk, dn, ds, cols⟩, A, cap⟩ : Db)).p)
    (hc : canD ((⟨⟨6, tb, co, to2, ke, tk, tm, nl, dk, dn, ds, cols⟩, A, cap⟩ : Db)).p = true) (hx : bs x = dtx [32] ((⟨⟨6, tb, co, to2, ke, tk, tm, nl, dk, dn, ds, cols⟩, A, cap⟩ : Db)).p []) :
    Calls Tryz.prog 12 #[DV (⟨⟨6, tb, co, to2, ke, tk, tm, nl, dk, dn, ds, cols⟩, A, cap⟩ : Db)] w fun e w' => e = .returned (.string x) ∧ Below w.heap.size w w' := by
  have hc2 : (plainD ((⟨⟨6, tb, co, to2, ke, tk, tm, nl, dk, dn, ds, cols⟩, A, cap⟩ : Db)).p && (rightN (bs tb) && (rightN (bs co) && rightN (bs to2)))) = true := hc
  simp only [Bool.and_eq_true] at hc2
  obtain ⟨_, gtb, gco, gto2⟩ := hc2
  have ltb : tb.size ≤ 16 := by rw [← bs_length]; exact (right_len gtb).2
  have lco : co.size ≤ 16 := by rw [← bs_length]; exact (right_len gco).2
  have lto2 : to2.size ≤ 16 := by rw [← bs_length]; exact (right_len gto2).2
  obtain ⟨w0, hw0, hb0, hX, hs0⟩ := box_d10 w (⟨⟨6, tb, co, to2, ke, tk, tm, nl, dk, dn, ds, cols⟩, A, cap⟩ : Db)
  have Hw0 := Lib.hid hw0; clear hw0
  have HbW := Lib.hid hb0
  have HX := Lib.hid hX; clear hX
  have Hs0 := Lib.hid hs0; clear hs0
  have HA := Lib.hid (hA.to hb0); clear hb0 hA hc
  obtain ⟨h1, h2, h3, h4, h5, ⟨h6, h7⟩, h8, h9⟩ := hP
  have h8 : cols.length ≤ 1000000 := h8
  have fin : Hid (∀ y : ByteArray, bs y = dtx [32] ((⟨⟨6, tb, co, to2, ke, tk, tm, nl, dk, dn, ds, cols⟩, A, cap⟩ : Db)).p [] → y = x) := fun y hy => bs_eq (by rw [hy, hx])
  obtain ⟨z0, e0, s0, q0⟩ := add_ex ⟨#[99, 97, 108, 108, 32]⟩ tb 5 16 (by decide) ltb (by omega)
  obtain ⟨z1, e1, s1, q1⟩ := add_ex z0 ⟨#[32]⟩ 21 1 s0 (by decide) (by omega)
  obtain ⟨z2, e2, s2, q2⟩ := add_ex z1 co 22 16 s1 lco (by omega)
  obtain ⟨z3, e3, s3, q3⟩ := add_ex z2 ⟨#[32, 116, 111, 32]⟩ 38 4 s2 (by decide) (by omega)
  obtain ⟨z4, e4, s4, q4⟩ := add_ex z3 to2 42 16 s3 lto2 (by omega)
  have HF : Hid (z4 = x) := fin.out z4 (by
    rw [e4, e3, e2, e1, e0]
    simp [dtx, opT, toT]; try rfl)
  clear fin hx e0 s0 e1 s1 e2 s2 e3 s3 e4 s4 h1 h2 h3 h4 h5 h8 h9 h6 h7
  try clear x0 x1 x2 x3 x4 x5 x6 x7 x8 x9 x10 x11
  obtain ⟨x0, x1, x2, x3, x4, x5, x6, x7, x8, x9, x10, x11⟩ := HX.out.ddl
  go_enter Tryz.func12, Tryz.ntmps12
  go_wp2_with fail
  try rw [Hw0.out]
  try go_wp2_with fail
  go_ret
  exact ⟨by rw [← HF.out]; rfl, HbW.out⟩
set_option maxRecDepth 100000 in
set_option maxHeartbeats 3200000 in
theorem rprn7_any (tb co to2 ke : ByteArray) (tk tm : Int) (nl : Bool) (dk dn : Int) (ds : ByteArray) (cols : List Cb) (A : Option Addr) (cap : Nat) (x : ByteArray) (w : World) (hA : DdlAt w w.heap.size (⟨⟨7, tb, co, to2, ke, tk, tm, nl, dk, dn, ds, cols⟩, A, cap⟩ : Db)) (hP : WfP ((⟨⟨7, tb, co, to2, ke, tk, tm, nl, dk, dn, ds, cols⟩, A, cap⟩ : Db)).p)
    (hc : canD ((⟨⟨7, tb, co, to2, ke, tk, tm, nl, dk, dn, ds, cols⟩, A, cap⟩ : Db)).p = true) (hx : bs x = dtx [32] ((⟨⟨7, tb, co, to2, ke, tk, tm, nl, dk, dn, ds, cols⟩, A, cap⟩ : Db)).p []) :
    Calls Tryz.prog 12 #[DV (⟨⟨7, tb, co, to2, ke, tk, tm, nl, dk, dn, ds, cols⟩, A, cap⟩ : Db)] w fun e w' => e = .returned (.string x) ∧ Below w.heap.size w w' := by
  have hc2 : (plainD ((⟨⟨7, tb, co, to2, ke, tk, tm, nl, dk, dn, ds, cols⟩, A, cap⟩ : Db)).p && (rightN (bs tb) && (rightN (bs co) && rightT tk tm))) = true := hc
  simp only [Bool.and_eq_true] at hc2
  obtain ⟨_, gtb, gco, gt⟩ := hc2
  have ltb : tb.size ≤ 16 := by rw [← bs_length]; exact (right_len gtb).2
  have lco : co.size ≤ 16 := by rw [← bs_length]; exact (right_len gco).2
  obtain ⟨w0, hw0, hb0, hX, hs0⟩ := box_d10 w (⟨⟨7, tb, co, to2, ke, tk, tm, nl, dk, dn, ds, cols⟩, A, cap⟩ : Db)
  have Hw0 := Lib.hid hw0; clear hw0
  have HbW := Lib.hid hb0
  have HX := Lib.hid hX; clear hX
  have Hs0 := Lib.hid hs0; clear hs0
  have HA := Lib.hid (hA.to hb0); clear hb0 hA hc
  obtain ⟨h1, h2, h3, h4, h5, ⟨h6, h7⟩, h8, h9⟩ := hP
  have h8 : cols.length ≤ 1000000 := h8
  have fin : Hid (∀ y : ByteArray, bs y = dtx [32] ((⟨⟨7, tb, co, to2, ke, tk, tm, nl, dk, dn, ds, cols⟩, A, cap⟩ : Db)).p [] → y = x) := fun y hy => bs_eq (by rw [hy, hx])
  have HC := Lib.hid (fun w => trprint_yes tk tm w gt)
  obtain ⟨T, hT⟩ : ∃ T : ByteArray, ⟨(prT tk tm).toArray⟩ = T := ⟨_, rfl⟩
  have lT : T.size ≤ 30 := by rw [← hT, ba_size]; exact prT_len gt
  have bT : bs T = prT tk tm := by rw [← hT]; exact bs_mk _
  rw [hT] at HC
  clear hT
  obtain ⟨z0, e0, s0, q0⟩ := add_ex ⟨#[119, 105, 100, 101, 110, 32]⟩ tb 6 16 (by decide) ltb (by omega)
  obtain ⟨z1, e1, s1, q1⟩ := add_ex z0 ⟨#[32]⟩ 22 1 s0 (by decide) (by omega)
  obtain ⟨z2, e2, s2, q2⟩ := add_ex z1 co 23 16 s1 lco (by omega)
  obtain ⟨z3, e3, s3, q3⟩ := add_ex z2 ⟨#[32]⟩ 39 1 s2 (by decide) (by omega)
  obtain ⟨z4, e4, s4, q4⟩ := add_ex z3 T 40 30 s3 lT (by omega)
  have HF : Hid (z4 = x) := fin.out z4 (by
    rw [e4, e3, e2, e1, e0, bT]
    simp [dtx, opT]; try rfl)
  clear fin hx e0 s0 e1 s1 e2 s2 e3 s3 e4 s4 h1 h2 h3 h4 h5 h8 h9 bT lT h6 h7 gt
  try clear x0 x1 x2 x3 x4 x5 x6 x7 x8 x9 x10 x11
  obtain ⟨x0, x1, x2, x3, x4, x5, x6, x7, x8, x9, x10, x11⟩ := HX.out.ddl
  go_enter Tryz.func12, Tryz.ntmps12
  go_wp2_with fail
  try rw [Hw0.out]
  go_region_held3 (fun w' => w'.cell? ⟨w.heap.size, 0, none⟩ = some (.int .i64 7) ∧ w'.cell? ⟨w.heap.size, 1, none⟩ = some (.string tb) ∧ w'.cell? ⟨w.heap.size, 2, none⟩ = some (.string co) ∧ w'.cell? ⟨w.heap.size, 3, none⟩ = some (.string to2) ∧ w'.cell? ⟨w.heap.size, 4, none⟩ = some (.string ke) ∧ w'.cell? ⟨w.heap.size, 5, none⟩ = some (.int .i64 tk) ∧ w'.cell? ⟨w.heap.size, 6, none⟩ = some (.int .i64 tm) ∧ w'.cell? ⟨w.heap.size, 7, none⟩ = some (.bool nl) ∧ w'.cell? ⟨w.heap.size, 8, none⟩ = some (.int .i64 dk) ∧ w'.cell? ⟨w.heap.size, 9, none⟩ = some (.int .i64 dn) ∧ w'.cell? ⟨w.heap.size, 10, none⟩ = some (.string ds) ∧ w'.cell? ⟨w.heap.size, 11, none⟩ = some (.slice A cols.length cap))
    (exact ⟨x0, x1, x2, x3, x4, x5, x6, x7, x8, x9, x10, x11⟩)
    (first
    | (go_at_call 28; refine (HC.out _).mono ?_; rintro e w2 ⟨rfl, hb⟩; have Hd2 : Hid (Below w0.heap.size w0 w2) := bthen (by go_grown) hb; clear hb; clear x0 x1 x2 x3 x4 x5 x6 x7 x8 x9 x10 x11; obtain ⟨x0, x1, x2, x3, x4, x5, x6, x7, x8, x9, x10, x11⟩ := (HX.out.below Hd2.out (by have := Hs0.out; omega)).ddl)
    | fail)
  all_goals
    go_wp2_with fail
    go_ret
    exact ⟨by rw [← HF.out]; rfl, bthen HbW.out Hd2.out⟩
set_option maxRecDepth 100000 in
set_option maxHeartbeats 3200000 in
theorem rprn8_any (tb co to2 ke : ByteArray) (tk tm : Int) (nl : Bool) (dk dn : Int) (ds : ByteArray) (cols : List Cb) (A : Option Addr) (cap : Nat) (x : ByteArray) (w : World) (hA : DdlAt w w.heap.size (⟨⟨8, tb, co, to2, ke, tk, tm, nl, dk, dn, ds, cols⟩, A, cap⟩ : Db)) (hP : WfP ((⟨⟨8, tb, co, to2, ke, tk, tm, nl, dk, dn, ds, cols⟩, A, cap⟩ : Db)).p)
    (hc : canD ((⟨⟨8, tb, co, to2, ke, tk, tm, nl, dk, dn, ds, cols⟩, A, cap⟩ : Db)).p = true) (hx : bs x = dtx [32] ((⟨⟨8, tb, co, to2, ke, tk, tm, nl, dk, dn, ds, cols⟩, A, cap⟩ : Db)).p []) :
    Calls Tryz.prog 12 #[DV (⟨⟨8, tb, co, to2, ke, tk, tm, nl, dk, dn, ds, cols⟩, A, cap⟩ : Db)] w fun e w' => e = .returned (.string x) ∧ Below w.heap.size w w' := by
  have hc2 : (plainD ((⟨⟨8, tb, co, to2, ke, tk, tm, nl, dk, dn, ds, cols⟩, A, cap⟩ : Db)).p && (rightN (bs tb) && (rightN (bs co) && rightV dk dn (bs ds)))) = true := hc
  simp only [Bool.and_eq_true] at hc2
  obtain ⟨_, gtb, gco, gv⟩ := hc2
  have ltb : tb.size ≤ 16 := by rw [← bs_length]; exact (right_len gtb).2
  have lco : co.size ≤ 16 := by rw [← bs_length]; exact (right_len gco).2
  obtain ⟨w0, hw0, hb0, hX, hs0⟩ := box_d10 w (⟨⟨8, tb, co, to2, ke, tk, tm, nl, dk, dn, ds, cols⟩, A, cap⟩ : Db)
  have Hw0 := Lib.hid hw0; clear hw0
  have HbW := Lib.hid hb0
  have HX := Lib.hid hX; clear hX
  have Hs0 := Lib.hid hs0; clear hs0
  have HA := Lib.hid (hA.to hb0); clear hb0 hA hc
  obtain ⟨h1, h2, h3, h4, h5, ⟨h6, h7⟩, h8, h9⟩ := hP
  have h8 : cols.length ≤ 1000000 := h8
  have fin : Hid (∀ y : ByteArray, bs y = dtx [32] ((⟨⟨8, tb, co, to2, ke, tk, tm, nl, dk, dn, ds, cols⟩, A, cap⟩ : Db)).p [] → y = x) := fun y hy => bs_eq (by rw [hy, hx])
  have HC := Lib.hid (fun w => vrprint_any dk dn ds w h6 h7 h5)
  obtain ⟨V, hV⟩ : ∃ V : ByteArray, ⟨(prW dk dn (bs ds)).toArray⟩ = V := ⟨_, rfl⟩
  have lV : V.size ≤ 900 := by rw [← hV, ba_size]; exact prW_len2 gv h6 h7
  have bV : bs V = prW dk dn (bs ds) := by rw [← hV]; exact bs_mk _
  rw [hV] at HC
  clear hV
  obtain ⟨z0, e0, s0, q0⟩ := add_ex ⟨#[112, 114, 101, 115, 101, 116, 32]⟩ tb 7 16 (by decide) ltb (by omega)
  obtain ⟨z1, e1, s1, q1⟩ := add_ex z0 ⟨#[32]⟩ 23 1 s0 (by decide) (by omega)
  obtain ⟨z2, e2, s2, q2⟩ := add_ex z1 co 24 16 s1 lco (by omega)
  obtain ⟨z3, e3, s3, q3⟩ := add_ex z2 ⟨#[32]⟩ 40 1 s2 (by decide) (by omega)
  obtain ⟨z4, e4, s4, q4⟩ := add_ex z3 V 41 900 s3 lV (by omega)
  have HF : Hid (z4 = x) := fin.out z4 (by
    rw [e4, e3, e2, e1, e0, bV]
    simp [dtx, opT]; try rfl)
  clear fin hx e0 s0 e1 s1 e2 s2 e3 s3 e4 s4 h1 h2 h3 h4 h5 h8 h9 bV lV h6 h7 gv
  try clear x0 x1 x2 x3 x4 x5 x6 x7 x8 x9 x10 x11
  obtain ⟨x0, x1, x2, x3, x4, x5, x6, x7, x8, x9, x10, x11⟩ := HX.out.ddl
  go_enter Tryz.func12, Tryz.ntmps12
  go_wp2_with fail
  try rw [Hw0.out]
  go_region_held3 (fun w' => w'.cell? ⟨w.heap.size, 0, none⟩ = some (.int .i64 8) ∧ w'.cell? ⟨w.heap.size, 1, none⟩ = some (.string tb) ∧ w'.cell? ⟨w.heap.size, 2, none⟩ = some (.string co) ∧ w'.cell? ⟨w.heap.size, 3, none⟩ = some (.string to2) ∧ w'.cell? ⟨w.heap.size, 4, none⟩ = some (.string ke) ∧ w'.cell? ⟨w.heap.size, 5, none⟩ = some (.int .i64 tk) ∧ w'.cell? ⟨w.heap.size, 6, none⟩ = some (.int .i64 tm) ∧ w'.cell? ⟨w.heap.size, 7, none⟩ = some (.bool nl) ∧ w'.cell? ⟨w.heap.size, 8, none⟩ = some (.int .i64 dk) ∧ w'.cell? ⟨w.heap.size, 9, none⟩ = some (.int .i64 dn) ∧ w'.cell? ⟨w.heap.size, 10, none⟩ = some (.string ds) ∧ w'.cell? ⟨w.heap.size, 11, none⟩ = some (.slice A cols.length cap))
    (exact ⟨x0, x1, x2, x3, x4, x5, x6, x7, x8, x9, x10, x11⟩)
    (first
    | (go_at_call 29; refine (HC.out _).mono ?_; rintro e w2 ⟨rfl, hb⟩; have Hd2 : Hid (Below w0.heap.size w0 w2) := bthen (by go_grown) hb; clear hb; clear x0 x1 x2 x3 x4 x5 x6 x7 x8 x9 x10 x11; obtain ⟨x0, x1, x2, x3, x4, x5, x6, x7, x8, x9, x10, x11⟩ := (HX.out.below Hd2.out (by have := Hs0.out; omega)).ddl)
    | fail)
  all_goals
    go_wp2_with fail
    go_ret
    exact ⟨by rw [← HF.out]; rfl, bthen HbW.out Hd2.out⟩
set_option maxRecDepth 100000 in
set_option maxHeartbeats 3200000 in
theorem rprn4_any (tb co to2 ke : ByteArray) (tk tm : Int) (nl : Bool) (dk dn : Int) (ds : ByteArray) (cols : List Cb) (A : Option Addr) (cap : Nat) (x : ByteArray) (w : World) (hA : DdlAt w w.heap.size (⟨⟨4, tb, co, to2, ke, tk, tm, nl, dk, dn, ds, cols⟩, A, cap⟩ : Db)) (hP : WfP ((⟨⟨4, tb, co, to2, ke, tk, tm, nl, dk, dn, ds, cols⟩, A, cap⟩ : Db)).p)
    (hc : canD ((⟨⟨4, tb, co, to2, ke, tk, tm, nl, dk, dn, ds, cols⟩, A, cap⟩ : Db)).p = true) (hx : bs x = dtx [32] ((⟨⟨4, tb, co, to2, ke, tk, tm, nl, dk, dn, ds, cols⟩, A, cap⟩ : Db)).p []) :
    Calls Tryz.prog 12 #[DV (⟨⟨4, tb, co, to2, ke, tk, tm, nl, dk, dn, ds, cols⟩, A, cap⟩ : Db)] w fun e w' => e = .returned (.string x) ∧ Below w.heap.size w w' := by
  have hc2 : (plainD ((⟨⟨4, tb, co, to2, ke, tk, tm, nl, dk, dn, ds, cols⟩, A, cap⟩ : Db)).p && (rightN (bs tb) && (rightN (bs co) && (rightT tk tm && rightV dk dn (bs ds))))) = true := hc
  simp only [Bool.and_eq_true] at hc2
  obtain ⟨_, gtb, gco, gt, gv⟩ := hc2
  have ltb : tb.size ≤ 16 := by rw [← bs_length]; exact (right_len gtb).2
  have lco : co.size ≤ 16 := by rw [← bs_length]; exact (right_len gco).2
  obtain ⟨w0, hw0, hb0, hX, hs0⟩ := box_d10 w (⟨⟨4, tb, co, to2, ke, tk, tm, nl, dk, dn, ds, cols⟩, A, cap⟩ : Db)
  have Hw0 := Lib.hid hw0; clear hw0
  have HbW := Lib.hid hb0
  have HX := Lib.hid hX; clear hX
  have Hs0 := Lib.hid hs0; clear hs0
  have HA := Lib.hid (hA.to hb0); clear hb0 hA hc
  obtain ⟨h1, h2, h3, h4, h5, ⟨h6, h7⟩, h8, h9⟩ := hP
  have h8 : cols.length ≤ 1000000 := h8
  have fin : Hid (∀ y : ByteArray, bs y = dtx [32] ((⟨⟨4, tb, co, to2, ke, tk, tm, nl, dk, dn, ds, cols⟩, A, cap⟩ : Db)).p [] → y = x) := fun y hy => bs_eq (by rw [hy, hx])
  have gc : colOk ⟨0, co, tk, tm, nl, dk, dn, ds⟩ = true := colOk_iff.2 ⟨gco, gt, gv⟩
  obtain ⟨C, bC⟩ : ∃ C : ByteArray, bs C = colX [32] ⟨0, co, tk, tm, nl, dk, dn, ds⟩ [] := ⟨strB _, rfl⟩
  have HC := Lib.hid (fun w => rcol10_any 0 co tk tm nl dk dn ds C w gc h6 h7 bC)
  have lC : C.size ≤ 1100 := by rw [← bs_length, bC]; exact colX_len gc h6 h7
  obtain ⟨z0, e0, s0, q0⟩ := add_ex ⟨#[97, 100, 100, 32]⟩ tb 4 16 (by decide) ltb (by omega)
  obtain ⟨z1, e1, s1, q1⟩ := add_ex z0 ⟨#[32]⟩ 20 1 s0 (by decide) (by omega)
  obtain ⟨z2, e2, s2, q2⟩ := add_ex z1 C 21 1100 s1 lC (by omega)
  have HF : Hid (z2 = x) := fin.out z2 (by
    rw [e2, e1, e0, bC]
    simp [dtx, opT]; try rfl)
  clear fin hx e0 s0 e1 s1 e2 s2 h1 h2 h3 h4 h5 h8 h9 bC lC h6 h7 gt gv gc
  try clear x0 x1 x2 x3 x4 x5 x6 x7 x8 x9 x10 x11
  obtain ⟨x0, x1, x2, x3, x4, x5, x6, x7, x8, x9, x10, x11⟩ := HX.out.ddl
  go_enter Tryz.func12, Tryz.ntmps12
  go_wp2_with fail
  try rw [Hw0.out]
  go_region_held3 (fun w' => w'.cell? ⟨w.heap.size, 0, none⟩ = some (.int .i64 4) ∧ w'.cell? ⟨w.heap.size, 1, none⟩ = some (.string tb) ∧ w'.cell? ⟨w.heap.size, 2, none⟩ = some (.string co) ∧ w'.cell? ⟨w.heap.size, 3, none⟩ = some (.string to2) ∧ w'.cell? ⟨w.heap.size, 4, none⟩ = some (.string ke) ∧ w'.cell? ⟨w.heap.size, 5, none⟩ = some (.int .i64 tk) ∧ w'.cell? ⟨w.heap.size, 6, none⟩ = some (.int .i64 tm) ∧ w'.cell? ⟨w.heap.size, 7, none⟩ = some (.bool nl) ∧ w'.cell? ⟨w.heap.size, 8, none⟩ = some (.int .i64 dk) ∧ w'.cell? ⟨w.heap.size, 9, none⟩ = some (.int .i64 dn) ∧ w'.cell? ⟨w.heap.size, 10, none⟩ = some (.string ds) ∧ w'.cell? ⟨w.heap.size, 11, none⟩ = some (.slice A cols.length cap))
    (exact ⟨x0, x1, x2, x3, x4, x5, x6, x7, x8, x9, x10, x11⟩)
    (first
    | (go_at_call 27; refine (HC.out _).mono ?_; rintro e w2 ⟨rfl, hb⟩; have Hd2 : Hid (Below w0.heap.size w0 w2) := bthen (by go_grown) hb; clear hb; clear x0 x1 x2 x3 x4 x5 x6 x7 x8 x9 x10 x11; obtain ⟨x0, x1, x2, x3, x4, x5, x6, x7, x8, x9, x10, x11⟩ := (HX.out.below Hd2.out (by have := Hs0.out; omega)).ddl)
    | fail)
  all_goals
    go_wp2_with fail
    go_ret
    exact ⟨by rw [← HF.out]; rfl, bthen HbW.out Hd2.out⟩
set_option maxRecDepth 100000 in
set_option maxHeartbeats 3200000 in
theorem rprn1_any (tb co to2 ke : ByteArray) (tk tm : Int) (nl : Bool) (dk dn : Int) (ds : ByteArray) (cols : List Cb) (A : Option Addr) (cap : Nat) (x : ByteArray) (w : World) (hA : DdlAt w w.heap.size (⟨⟨1, tb, co, to2, ke, tk, tm, nl, dk, dn, ds, cols⟩, A, cap⟩ : Db)) (hP : WfP ((⟨⟨1, tb, co, to2, ke, tk, tm, nl, dk, dn, ds, cols⟩, A, cap⟩ : Db)).p)
    (hc : canD ((⟨⟨1, tb, co, to2, ke, tk, tm, nl, dk, dn, ds, cols⟩, A, cap⟩ : Db)).p = true) (hx : bs x = dtx [32] ((⟨⟨1, tb, co, to2, ke, tk, tm, nl, dk, dn, ds, cols⟩, A, cap⟩ : Db)).p []) :
    Calls Tryz.prog 12 #[DV (⟨⟨1, tb, co, to2, ke, tk, tm, nl, dk, dn, ds, cols⟩, A, cap⟩ : Db)] w fun e w' => e = .returned (.string x) ∧ Below w.heap.size w w' := by
  have hc2 : (plainD ((⟨⟨1, tb, co, to2, ke, tk, tm, nl, dk, dn, ds, cols⟩, A, cap⟩ : Db)).p && (rightN (bs tb) && (cols.all colOk && (rightN (bs ke) && (decide (1 ≤ cols.length) && decide (cols.length ≤ 10)))))) = true := hc
  simp only [Bool.and_eq_true, decide_eq_true_eq] at hc2
  obtain ⟨_, gtb, gcs, gke, gl1, gl2⟩ := hc2
  have ltb : tb.size ≤ 16 := by rw [← bs_length]; exact (right_len gtb).2
  have lke : ke.size ≤ 16 := by rw [← bs_length]; exact (right_len gke).2
  obtain ⟨w0, hw0, hb0, hX, hs0⟩ := box_d10 w (⟨⟨1, tb, co, to2, ke, tk, tm, nl, dk, dn, ds, cols⟩, A, cap⟩ : Db)
  have Hw0 := Lib.hid hw0; clear hw0
  have HbW := Lib.hid hb0
  have HX := Lib.hid hX; clear hX
  have Hs0 := Lib.hid hs0; clear hs0
  have HA := Lib.hid (hA.to hb0); clear hb0 hA hc
  obtain ⟨h1, h2, h3, h4, h5, ⟨h6, h7⟩, h8, h9⟩ := hP
  have h8 : cols.length ≤ 1000000 := h8
  have fin : Hid (∀ y : ByteArray, bs y = dtx [32] ((⟨⟨1, tb, co, to2, ke, tk, tm, nl, dk, dn, ds, cols⟩, A, cap⟩ : Db)).p [] → y = x) := fun y hy => bs_eq (by rw [hy, hx])
  obtain ⟨z0, e0, s0, q0⟩ := add_ex ⟨#[99, 114, 101, 97, 116, 101, 32]⟩ tb 7 16 (by decide) ltb (by omega)
  obtain ⟨z1, e1, s1, q1⟩ := add_ex z0 ⟨#[32, 40]⟩ 23 2 s0 (by decide) (by omega)
  have HZ : Hid (bs z1 = [99, 114, 101, 97, 116, 101, 32] ++ (bs tb ++ [32, 40])) := by show _ = _; rw [e1, e0, List.append_assoc]; rfl
  have HG : Hid (∀ c ∈ cols, colOk c = true) := fun c hc => List.all_eq_true.1 gcs c hc
  have H9 : Hid (∀ c ∈ cols, WfPc c) := h9
  have Hl := Lib.hid gl1
  have Hls := Lib.hid s1
  clear e0 e1 s0 s1 hx h1 h2 h3 h4 h5 h6 h7 h9 gcs gl1
  try clear x0 x1 x2 x3 x4 x5 x6 x7 x8 x9 x10 x11
  obtain ⟨x0, x1, x2, x3, x4, x5, x6, x7, x8, x9, x10, x11⟩ := HX.out.ddl
  go_enter Tryz.func12, Tryz.ntmps12
  go_wp2_with fail
  try rw [Hw0.out]
  go_loopg [3, 4] cols.length (fun g sv i wr => ∃ (k : Nat) (sk : ByteArray), k + g = cols.length ∧ sv = .string sk ∧ i = .int .i64 (k : Int) ∧ sk.size ≤ 25 + 1110 * k ∧ Hid (bs sk = bs z1 ++ colsX [32] (cols.take k) []) ∧ Hid (Below w0.heap.size w0 wr))
  case atStart => exact ⟨0, z1, Nat.zero_add _, rfl, rfl, Hls.out, by show _ = _; simp [colsX], Below.refl _ _⟩
  case round =>
    obtain ⟨k, sk, hk, rfl, rfl, hsk, HB, hb⟩ := hrel
    clear q0 q1 x0 x1 x2 x3 x4 x5 x6 x7 x8 x9 x10 x11
    obtain ⟨x0, x1, x2, x3, x4, x5, x6, x7, x8, x9, x10, x11⟩ := (HX.out.below hb.out (by have := Hs0.out; omega)).ddl
    by_cases hlt : k < cols.length
    · obtain ⟨gg, rfl⟩ : ∃ gg, gk = gg + 1 := ⟨gk - 1, by omega⟩
      have HGG : Hid (k + 1 + gg = cols.length) := by show _ = _; omega
      obtain ⟨c, hc⟩ : ∃ c, cols[k]? = some c := ⟨cols[k], by simp [hlt]⟩
      have hcm := List.mem_of_getElem? hc
      have gc := HG.out c hcm
      have wc := H9.out c hcm
      have HT : Hid (cols.take (k + 1) = cols.take k ++ [c]) := by show _ = _; rw [List.take_add_one, hc]; rfl
      obtain ⟨C, bC⟩ : ∃ C : ByteArray, bs C = colX [32] c [] := ⟨strB _, rfl⟩
      have lC : C.size ≤ 1100 := by rw [← bs_length, bC]; exact colX_len gc wc.2.2.1 wc.2.2.2
      obtain ⟨ci, cnm, ctk, ctm, cnl, cdk, cdn, cds⟩ := c
      have HC := Lib.hid (fun w => rcol10_any ci cnm ctk ctm cnl cdk cdn cds C w gc wc.2.2.1 wc.2.2.2 bC)
      obtain ⟨g, off, hAe0, hgB, e0, e1, e2, e3, e4, e5, e6, e7⟩ := ColsAt.get (HA.out.to hb.out) k _ hc
      have hAe : A = some ⟨g, off, none⟩ := hAe0
      rw [show ((⟨⟨1, tb, co, to2, ke, tk, tm, nl, dk, dn, ds, cols⟩, A, cap⟩ : Db)).A = some ⟨g, off, none⟩ from hAe] at x11
      have BC := Lib.hid bC
      have hltI : (k : Int) < (cols.length : Int) := by omega
      have h0k : (0 : Int) ≤ (k : Int) := by omega
      have hw1 : IntKind.i64.wrap ((k : Int) + 1) = (k : Int) + 1 := IntWalk.i64_in _ (by omega)
      obtain ⟨w3, hw3⟩ : ∃ w3, wr.alloc (.cells #[.int .i64 ci, .string cnm, .int .i64 ctk, .int .i64 ctm, .bool cnl, .int .i64 cdk, .int .i64 cdn, .string cds] 56) = w3 := ⟨_, rfl⟩
      have hb3 : Below wr.heap.size wr w3 := by rw [← hw3]; exact (Below.refl _ _).alloc (Nat.le_refl _) _
      have HK3 : Hid (Bk 56 w3 wr.heap.size [.int .i64 ci, .string cnm, .int .i64 ctk, .int .i64 ctm, .bool cnl, .int .i64 cdk, .int .i64 cdn, .string cds]) := by rw [← hw3]; exact Bk.new wr [.int .i64 ci, .string cnm, .int .i64 ctk, .int .i64 ctm, .bool cnl, .int .i64 cdk, .int .i64 cdn, .string cds] 56
      have Hb3 := Lib.hid (bthen hb.out hb3)
      have Hw3 := Lib.hid hw3
      clear hw3 hb3 hAe hAe0 hgB hc hcm gc wc bC
      have y1 := HK3.out.at 1 _ rfl; have y2 := HK3.out.at 2 _ rfl; have y3 := HK3.out.at 3 _ rfl; have y4 := HK3.out.at 4 _ rfl
      have y5 := HK3.out.at 5 _ rfl; have y6 := HK3.out.at 6 _ rfl; have y7 := HK3.out.at 7 _ rfl
      by_cases h0 : k = 0
      · have hk0 : ¬ (0 : Int) < (k : Int) := by omega
        obtain ⟨u, f1, g1, r1⟩ := add_ex sk C (25 + 1110 * k) 1100 hsk lC (by omega)
        have HU : Hid (bs u = bs z1 ++ colsX [32] (cols.take (k + 1)) []) := by
          show _ = _
          rw [f1, HB.out, BC.out, HT.out]
          subst h0
          simp [colsX]
        have Hsz : Hid (u.size ≤ 25 + 1110 * (k + 1)) := by show _ ≤ _; omega
        clear f1 h0
        go_wp2_with fail
        rw [Hw3.out]
        try go_wp2_with fail
        refine (HC.out _).mono ?_
        rintro e w4 ⟨rfl, hb4⟩
        have Hb4 := Lib.hid (bthen Hb3.out hb4); clear hb4 y1 y2 y3 y4 y5 y6 y7 e0 e1 e2 e3 e4 e5 e6 e7 x0 x1 x2 x3 x4 x5 x6 x7 x8 x9 x10 x11
        go_wp2_with fail
        go_roundg gg
        case measure => omega
        case rel => exact ⟨k + 1, u, HGG.out, rfl, by go_num, Hsz.out, HU.out, Hb4.out⟩
      · have hk0 : (0 : Int) < (k : Int) := by omega
        obtain ⟨v, f0, g0, r0⟩ := add_ex sk ⟨#[44, 32]⟩ (25 + 1110 * k) 2 hsk (by decide) (by omega)
        obtain ⟨u, f1, g1, r1⟩ := add_ex v C (25 + 1110 * k + 2) 1100 g0 lC (by omega)
        have HU : Hid (bs u = bs z1 ++ colsX [32] (cols.take (k + 1)) []) := by
          show _ = _
          rw [f1, f0, HB.out, BC.out, HT.out, colsX_snoc [32] (cols.take k) _ (fun e => by have h1 := congrArg List.length e; rw [List.length_take] at h1; have h2 : ([] : List Cb).length = 0 := rfl; omega), show bs (⟨#[44, 32]⟩ : ByteArray) = [44, 32] from rfl]
          simp
        have Hsz : Hid (u.size ≤ 25 + 1110 * (k + 1)) := by show _ ≤ _; omega
        clear f1 f0 h0
        go_wp2_with fail
        rw [Hw3.out]
        try go_wp2_with fail
        refine (HC.out _).mono ?_
        rintro e w4 ⟨rfl, hb4⟩
        have Hb4 := Lib.hid (bthen Hb3.out hb4); clear hb4 y1 y2 y3 y4 y5 y6 y7 e0 e1 e2 e3 e4 e5 e6 e7 x0 x1 x2 x3 x4 x5 x6 x7 x8 x9 x10 x11
        go_wp2_with fail
        go_roundg gg
        case measure => omega
        case rel => exact ⟨k + 1, u, HGG.out, rfl, by go_num, Hsz.out, HU.out, Hb4.out⟩
    · obtain rfl : k = cols.length := by omega
      have hltI : ¬ ((cols.length : Int) < (cols.length : Int)) := by omega
      obtain ⟨v, f0, g0, r0⟩ := add_ex sk ⟨#[41, 32, 107, 101, 121, 32]⟩ (25 + 1110 * cols.length) 6 hsk (by decide) (by omega)
      obtain ⟨u, f1, g1, r1⟩ := add_ex v ke (25 + 1110 * cols.length + 6) 16 g0 lke (by omega)
      have HF : Hid (u = x) := fin.out u (by
        rw [f1, f0, HB.out, HZ.out, List.take_length]
        have e : dtx [32] ((⟨⟨1, tb, co, to2, ke, tk, tm, nl, dk, dn, ds, cols⟩, A, cap⟩ : Db)).p [] = opT 1 ++ ([32] ++ (bs tb ++ ([32] ++ (40 :: colsX [32] cols (41 :: ([32] ++ (keyT ++ ([32] ++ (bs ke ++ [])))))))) ) := rfl
        rw [e, colsX_app [32] cols (41 :: _), show bs (⟨#[41, 32, 107, 101, 121, 32]⟩ : ByteArray) = [41, 32, 107, 101, 121, 32] from rfl]
        simp [opT, keyT])
      clear f0 f1 g0 g1 hlt
      go_wp2_with fail
      go_ret
      exact ⟨by rw [← HF.out]; rfl, bthen HbW.out hb.out⟩
theorem rprint_any (d : Db) (x : ByteArray) (w : World) (hA : DdlAt w w.heap.size d) (hP : WfP d.p) (hc : canD d.p = true) (hx : bs x = dtx [32] d.p []) :
    Calls Tryz.prog 12 #[DV d] w fun e w' => e = .returned (.string x) ∧ Below w.heap.size w w' := by
  have hop := plainD_op (canD_plain hc)
  obtain ⟨⟨op, tb, co, to2, ke, tk, tm, nl, dk, dn, ds, cols⟩, A, cap⟩ := d
  have hop : 1 ≤ op ∧ op ≤ 8 := hop
  rcases (show op = 1 ∨ op = 2 ∨ op = 3 ∨ op = 4 ∨ op = 5 ∨ op = 6 ∨ op = 7 ∨ op = 8 by omega) with rfl | rfl | rfl | rfl | rfl | rfl | rfl | rfl
  · exact rprn1_any tb co to2 ke tk tm nl dk dn ds cols A cap x w hA hP hc hx
  · exact rprn2_any tb co to2 ke tk tm nl dk dn ds cols A cap x w hA hP hc hx
  · exact rprn3_any tb co to2 ke tk tm nl dk dn ds cols A cap x w hA hP hc hx
  · exact rprn4_any tb co to2 ke tk tm nl dk dn ds cols A cap x w hA hP hc hx
  · exact rprn5_any tb co to2 ke tk tm nl dk dn ds cols A cap x w hA hP hc hx
  · exact rprn6_any tb co to2 ke tk tm nl dk dn ds cols A cap x w hA hP hc hx
  · exact rprn7_any tb co to2 ke tk tm nl dk dn ds cols A cap x w hA hP hc hx
  · exact rprn8_any tb co to2 ke tk tm nl dk dn ds cols A cap x w hA hP hc hx
end Go.Proofs.YtebldfnocpcddaaGreatDoor
