/-
  Texts that the proof needs, one behind the other: DtxPGC, DtxPPC.
-/
import Derived.Deep.CutBlock
import Derived.Deep.DeepCutAuto
import Derived.Test.YtebldfnocpcddaaGreatDoorPart16
import Derived.Test.YtebldfnocpcddaaGreatDoorPart34
import Derived.Test.YtebldfnocpcddaaGreatDoorPart36

/-
  The program's printer of changes (layer 10): a change.
-/
namespace Go.Proofs.YtebldfnocpcddaaGreatDoor
open Go.RowKit

set_option maxRecDepth 100000 in
set_option maxHeartbeats 3200000 in
theorem pchg1_any (w0 : World) (b : Nat) (tb co to2 ke : ByteArray) (tk tm : Int) (nl : Bool) (dk dn : Int) (ds : ByteArray) (cols : List Cb) (A : Option Addr) (cap : Nat) (w : World) (h : PrX w0 w b ⟨[], [], false⟩) (hT : Tbs w0) (hA : ColsAt w0 w0.heap.size A cols) (hP : WfP ⟨(1 : Int), tb, co, to2, ke, tk, tm, nl, dk, dn, ds, cols⟩) :
    Calls Tryz.prog 20 #[.pointer (some ⟨b, 0, none⟩), .agg #[.int .i64 1, .string tb, .string co, .string to2, .string ke, .int .i64 tk, .int .i64 tm, .bool nl, .int .i64 dk, .int .i64 dn, .string ds, .slice A cols.length cap]] w fun en w' => PrE w0 b (chgP ⟨(1 : Int), tb, co, to2, ke, tk, tm, nl, dk, dn, ds, cols⟩) w en w' := by
  obtain ⟨h1, h2, h3, h4, h5, ⟨h6, h7⟩, h8, h9⟩ := hP
  have H9 := Lib.hid h9; have HA := Lib.hid hA; clear h9 hA
  replace h1 : tb.size ≤ 1000000 := h1
  replace h2 : co.size ≤ 1000000 := h2
  replace h3 : to2.size ≤ 1000000 := h3
  replace h4 : ke.size ≤ 1000000 := h4
  replace h5 : ds.size ≤ 1000000 := h5
  replace h6 : -9223372036854775808 ≤ dn := h6
  replace h7 : dn < 9223372036854775808 := h7
  replace h8 : cols.length ≤ 1000000 := h8
  obtain ⟨wa, hwa⟩ : ∃ wa, w.alloc (.cells #[.int .i64 1, .string tb, .string co, .string to2, .string ke, .int .i64 tk, .int .i64 tm, .bool nl, .int .i64 dk, .int .i64 dn, .string ds, .slice A cols.length cap] 28) = wa := ⟨_, rfl⟩
  have hba : Below w.heap.size w wa := by rw [← hwa]; exact (Below.refl _ _).alloc (Nat.le_refl _) _
  have HK0 : Hid (Bk 28 wa w.heap.size [.int .i64 1, .string tb, .string co, .string to2, .string ke, .int .i64 tk, .int .i64 tm, .bool nl, .int .i64 dk, .int .i64 dn, .string ds, .slice A cols.length cap]) := by rw [← hwa]; exact Bk.new w [.int .i64 1, .string tb, .string co, .string to2, .string ke, .int .i64 tk, .int .i64 tm, .bool nl, .int .i64 dk, .int .i64 dn, .string ds, .slice A cols.length cap] 28
  have hKb : w.heap.size ≠ b := by have := h.lt; omega
  have Hwa := Lib.hid hwa; clear hwa
  have H0 := Lib.hid (h.below hba); have K0 := Lib.hid (Keep.of_below (b := b) hba)
  have HW0 := Lib.hid (hT.2.2.below h.bel (Nat.le_refl _))
  clear h hba
  have S0 : Hid (St 0 (⟨[], [], false⟩ : Pst)) := ⟨Nat.le_refl _, Nat.zero_le _⟩
  have tk0 : ∀ o : Obj, (w.alloc o).cell? ⟨0, 1, none⟩ = some (.string ⟨#[99, 114, 101, 97, 116, 101]⟩) := fun o => (HW0.out.below ((Below.refl w.heap.size w).alloc (Nat.le_refl _) o) (Nat.le_refl _)) 1 (by omega)
  have x0 := HK0.out.at 0 _ rfl
  go_enter Tryz.func20, Tryz.ntmps20
  go_wp2_with fail
  try rw [Hwa.out]
  try go_wp2_with fail
  refine (pword_any w0 b _ ⟨#[99, 114, 101, 97, 116, 101]⟩ _ H0.out (by have := S0.out.1; have := S0.out.2; show _ + _ + 6 ≤ _; omega)).mono ?_
  rintro en w101 ⟨rfl, g1, k1⟩
  have H1 : Hid (PrX w0 w101 b (putP (⟨[], [], false⟩ : Pst) (opT 1) true)) := g1; have K1 := Lib.hid (K0.out.trans k1); have HK1 := Lib.hid (k1 _ _ _ (by decide) hKb HK0.out); have S1 : Hid (St 100 (putP (⟨[], [], false⟩ : Pst) (opT 1) true)) := (S0.out.word (opT 1) (by decide))
  clear g1 k1
  try clear x0
  clear tk0
  have x1 := HK1.out.at 1 _ rfl
  have x0 := HK1.out.at 0 _ rfl
  go_wp2_with fail
  refine (pname_any w0 b _ tb _ H1.out (by have := S1.out.1; have := S1.out.2; omega) h1).mono ?_
  rintro en w102 ⟨rfl, g1, k1⟩
  have H2 : Hid (PrX w0 w102 b (nmP (putP (⟨[], [], false⟩ : Pst) (opT 1) true) tb)) := g1; have K2 := Lib.hid (K1.out.trans k1); have HK2 := Lib.hid (k1 _ _ _ (by decide) hKb HK1.out); have S2 : Hid (St 200 (nmP (putP (⟨[], [], false⟩ : Pst) (opT 1) true) tb)) := (S1.out.nm tb)
  clear g1 k1
  try clear x0
  clear x1
  have x11 := HK2.out.at 11 _ rfl
  have x0 := HK2.out.at 0 _ rfl
  go_wp2_with fail
  refine (pcolumns_any w0 b _ A cap cols _ H2.out hT (S2.out.more (by omega)) HA.out h8 H9.out).mono ?_
  rintro en w103 ⟨rfl, g1, k1⟩
  have H3 : Hid (PrX w0 w103 b (colsP (nmP (putP (⟨[], [], false⟩ : Pst) (opT 1) true) tb) cols)) := g1; have K3 := Lib.hid (K2.out.trans k1); have HK3 := Lib.hid (k1 _ _ _ (by decide) hKb HK2.out); have S3 : Hid (St 16200 (colsP (nmP (putP (⟨[], [], false⟩ : Pst) (opT 1) true) tb) cols)) := (S2.out.cols H9.out)
  clear g1 k1
  try clear x0
  clear x11
  have x0 := HK3.out.at 0 _ rfl
  go_wp2_with fail
  refine (pword_any w0 b _ ⟨#[107, 101, 121]⟩ _ H3.out (by have := S3.out.1; have := S3.out.2; show _ + _ + 3 ≤ _; omega)).mono ?_
  rintro en w104 ⟨rfl, g1, k1⟩
  have H4 : Hid (PrX w0 w104 b (putP (colsP (nmP (putP (⟨[], [], false⟩ : Pst) (opT 1) true) tb) cols) keyT true)) := g1; have K4 := Lib.hid (K3.out.trans k1); have HK4 := Lib.hid (k1 _ _ _ (by decide) hKb HK3.out); have S4 : Hid (St 16300 (putP (colsP (nmP (putP (⟨[], [], false⟩ : Pst) (opT 1) true) tb) cols) keyT true)) := (S3.out.word keyT (by decide))
  clear g1 k1
  try clear x0
  have x4 := HK4.out.at 4 _ rfl
  have x0 := HK4.out.at 0 _ rfl
  go_wp2_with fail
  refine (pname_any w0 b _ ke _ H4.out (by have := S4.out.1; have := S4.out.2; omega) h4).mono ?_
  rintro en w105 ⟨rfl, g1, k1⟩
  have H5 : Hid (PrX w0 w105 b (nmP (putP (colsP (nmP (putP (⟨[], [], false⟩ : Pst) (opT 1) true) tb) cols) keyT true) ke)) := g1; have K5 := Lib.hid (K4.out.trans k1); have HK5 := Lib.hid (k1 _ _ _ (by decide) hKb HK4.out); have S5 : Hid (St 16400 (nmP (putP (colsP (nmP (putP (⟨[], [], false⟩ : Pst) (opT 1) true) tb) cols) keyT true) ke)) := (S4.out.nm ke)
  clear g1 k1
  try clear x0
  clear x4
  have x0 := HK5.out.at 0 _ rfl
  go_wp2_with fail
  first | go_end0 | refine bodyPost_ret (results_none rfl _ _ _) rfl ?_
  exact ⟨rfl, H5.out, K5.out⟩
set_option maxRecDepth 100000 in
set_option maxHeartbeats 3200000 in
theorem pchg2_any (w0 : World) (b : Nat) (tb co to2 ke : ByteArray) (tk tm : Int) (nl : Bool) (dk dn : Int) (ds : ByteArray) (cols : List Cb) (A : Option Addr) (cap : Nat) (w : World) (h : PrX w0 w b ⟨[], [], false⟩) (hT : Tbs w0) (hA : ColsAt w0 w0.heap.size A cols) (hP : WfP ⟨(2 : Int), tb, co, to2, ke, tk, tm, nl, dk, dn, ds, cols⟩) :
    Calls Tryz.prog 20 #[.pointer (some ⟨b, 0, none⟩), .agg #[.int .i64 2, .string tb, .string co, .string to2, .string ke, .int .i64 tk, .int .i64 tm, .bool nl, .int .i64 dk, .int .i64 dn, .string ds, .slice A cols.length cap]] w fun en w' => PrE w0 b (chgP ⟨(2 : Int), tb, co, to2, ke, tk, tm, nl, dk, dn, ds, cols⟩) w en w' := by
  obtain ⟨h1, h2, h3, h4, h5, ⟨h6, h7⟩, h8, h9⟩ := hP
  have H9 := Lib.hid h9; have HA := Lib.hid hA; clear h9 hA
  replace h1 : tb.size ≤ 1000000 := h1
  replace h2 : co.size ≤ 1000000 := h2
  replace h3 : to2.size ≤ 1000000 := h3
  replace h4 : ke.size ≤ 1000000 := h4
  replace h5 : ds.size ≤ 1000000 := h5
  replace h6 : -9223372036854775808 ≤ dn := h6
  replace h7 : dn < 9223372036854775808 := h7
  replace h8 : cols.length ≤ 1000000 := h8
  obtain ⟨wa, hwa⟩ : ∃ wa, w.alloc (.cells #[.int .i64 2, .string tb, .string co, .string to2, .string ke, .int .i64 tk, .int .i64 tm, .bool nl, .int .i64 dk, .int .i64 dn, .string ds, .slice A cols.length cap] 28) = wa := ⟨_, rfl⟩
  have hba : Below w.heap.size w wa := by rw [← hwa]; exact (Below.refl _ _).alloc (Nat.le_refl _) _
  have HK0 : Hid (Bk 28 wa w.heap.size [.int .i64 2, .string tb, .string co, .string to2, .string ke, .int .i64 tk, .int .i64 tm, .bool nl, .int .i64 dk, .int .i64 dn, .string ds, .slice A cols.length cap]) := by rw [← hwa]; exact Bk.new w [.int .i64 2, .string tb, .string co, .string to2, .string ke, .int .i64 tk, .int .i64 tm, .bool nl, .int .i64 dk, .int .i64 dn, .string ds, .slice A cols.length cap] 28
  have hKb : w.heap.size ≠ b := by have := h.lt; omega
  have Hwa := Lib.hid hwa; clear hwa
  have H0 := Lib.hid (h.below hba); have K0 := Lib.hid (Keep.of_below (b := b) hba)
  have HW0 := Lib.hid (hT.2.2.below h.bel (Nat.le_refl _))
  clear h hba
  have S0 : Hid (St 0 (⟨[], [], false⟩ : Pst)) := ⟨Nat.le_refl _, Nat.zero_le _⟩
  have tk0 : ∀ o : Obj, (w.alloc o).cell? ⟨0, 2, none⟩ = some (.string ⟨#[100, 114, 111, 112]⟩) := fun o => (HW0.out.below ((Below.refl w.heap.size w).alloc (Nat.le_refl _) o) (Nat.le_refl _)) 2 (by omega)
  have x0 := HK0.out.at 0 _ rfl
  go_enter Tryz.func20, Tryz.ntmps20
  go_wp2_with fail
  try rw [Hwa.out]
  try go_wp2_with fail
  refine (pword_any w0 b _ ⟨#[100, 114, 111, 112]⟩ _ H0.out (by have := S0.out.1; have := S0.out.2; show _ + _ + 4 ≤ _; omega)).mono ?_
  rintro en w101 ⟨rfl, g1, k1⟩
  have H1 : Hid (PrX w0 w101 b (putP (⟨[], [], false⟩ : Pst) (opT 2) true)) := g1; have K1 := Lib.hid (K0.out.trans k1); have HK1 := Lib.hid (k1 _ _ _ (by decide) hKb HK0.out); have S1 : Hid (St 100 (putP (⟨[], [], false⟩ : Pst) (opT 2) true)) := (S0.out.word (opT 2) (by decide))
  clear g1 k1
  try clear x0
  clear tk0
  have x1 := HK1.out.at 1 _ rfl
  have x0 := HK1.out.at 0 _ rfl
  go_wp2_with fail
  refine (pname_any w0 b _ tb _ H1.out (by have := S1.out.1; have := S1.out.2; omega) h1).mono ?_
  rintro en w102 ⟨rfl, g1, k1⟩
  have H2 : Hid (PrX w0 w102 b (nmP (putP (⟨[], [], false⟩ : Pst) (opT 2) true) tb)) := g1; have K2 := Lib.hid (K1.out.trans k1); have HK2 := Lib.hid (k1 _ _ _ (by decide) hKb HK1.out); have S2 : Hid (St 200 (nmP (putP (⟨[], [], false⟩ : Pst) (opT 2) true) tb)) := (S1.out.nm tb)
  clear g1 k1
  try clear x0
  clear x1
  have x0 := HK2.out.at 0 _ rfl
  go_wp2_with fail
  first | go_end0 | refine bodyPost_ret (results_none rfl _ _ _) rfl ?_
  exact ⟨rfl, H2.out, K2.out⟩
set_option maxRecDepth 100000 in
set_option maxHeartbeats 3200000 in
theorem pchg3_any (w0 : World) (b : Nat) (tb co to2 ke : ByteArray) (tk tm : Int) (nl : Bool) (dk dn : Int) (ds : ByteArray) (cols : List Cb) (A : Option Addr) (cap : Nat) (w : World) (h : PrX w0 w b ⟨[], [], false⟩) (hT : Tbs w0) (hA : ColsAt w0 w0.heap.size A cols) (hP : WfP ⟨(3 : Int), tb, co, to2, ke, tk, tm, nl, dk, dn, ds, cols⟩) :
    Calls Tryz.prog 20 #[.pointer (some ⟨b, 0, none⟩), .agg #[.int .i64 3, .string tb, .string co, .string to2, .string ke, .int .i64 tk, .int .i64 tm, .bool nl, .int .i64 dk, .int .i64 dn, .string ds, .slice A cols.length cap]] w fun en w' => PrE w0 b (chgP ⟨(3 : Int), tb, co, to2, ke, tk, tm, nl, dk, dn, ds, cols⟩) w en w' := by
  obtain ⟨h1, h2, h3, h4, h5, ⟨h6, h7⟩, h8, h9⟩ := hP
  have H9 := Lib.hid h9; have HA := Lib.hid hA; clear h9 hA
  replace h1 : tb.size ≤ 1000000 := h1
  replace h2 : co.size ≤ 1000000 := h2
  replace h3 : to2.size ≤ 1000000 := h3
  replace h4 : ke.size ≤ 1000000 := h4
  replace h5 : ds.size ≤ 1000000 := h5
  replace h6 : -9223372036854775808 ≤ dn := h6
  replace h7 : dn < 9223372036854775808 := h7
  replace h8 : cols.length ≤ 1000000 := h8
  obtain ⟨wa, hwa⟩ : ∃ wa, w.alloc (.cells #[.int .i64 3, .string tb, .string co, .string to2, .string ke, .int .i64 tk, .int .i64 tm, .bool nl, .int .i64 dk, .int .i64 dn, .string ds, .slice A cols.length cap] 28) = wa := ⟨_, rfl⟩
  have hba : Below w.heap.size w wa := by rw [← hwa]; exact (Below.refl _ _).alloc (Nat.le_refl _) _
  have HK0 : Hid (Bk 28 wa w.heap.size [.int .i64 3, .string tb, .string co, .string to2, .string ke, .int .i64 tk, .int .i64 tm, .bool nl, .int .i64 dk, .int .i64 dn, .string ds, .slice A cols.length cap]) := by rw [← hwa]; exact Bk.new w [.int .i64 3, .string tb, .string co, .string to2, .string ke, .int .i64 tk, .int .i64 tm, .bool nl, .int .i64 dk, .int .i64 dn, .string ds, .slice A cols.length cap] 28
  have hKb : w.heap.size ≠ b := by have := h.lt; omega
  have Hwa := Lib.hid hwa; clear hwa
  have H0 := Lib.hid (h.below hba); have K0 := Lib.hid (Keep.of_below (b := b) hba)
  have HW0 := Lib.hid (hT.2.2.below h.bel (Nat.le_refl _))
  clear h hba
  have S0 : Hid (St 0 (⟨[], [], false⟩ : Pst)) := ⟨Nat.le_refl _, Nat.zero_le _⟩
  have tk0 : ∀ o : Obj, (w.alloc o).cell? ⟨0, 3, none⟩ = some (.string ⟨#[114, 101, 110, 97, 109, 101]⟩) := fun o => (HW0.out.below ((Below.refl w.heap.size w).alloc (Nat.le_refl _) o) (Nat.le_refl _)) 3 (by omega)
  have x0 := HK0.out.at 0 _ rfl
  go_enter Tryz.func20, Tryz.ntmps20
  go_wp2_with fail
  try rw [Hwa.out]
  try go_wp2_with fail
  refine (pword_any w0 b _ ⟨#[114, 101, 110, 97, 109, 101]⟩ _ H0.out (by have := S0.out.1; have := S0.out.2; show _ + _ + 6 ≤ _; omega)).mono ?_
  rintro en w101 ⟨rfl, g1, k1⟩
  have H1 : Hid (PrX w0 w101 b (putP (⟨[], [], false⟩ : Pst) (opT 3) true)) := g1; have K1 := Lib.hid (K0.out.trans k1); have HK1 := Lib.hid (k1 _ _ _ (by decide) hKb HK0.out); have S1 : Hid (St 100 (putP (⟨[], [], false⟩ : Pst) (opT 3) true)) := (S0.out.word (opT 3) (by decide))
  clear g1 k1
  try clear x0
  clear tk0
  have x1 := HK1.out.at 1 _ rfl
  have x0 := HK1.out.at 0 _ rfl
  go_wp2_with fail
  refine (pname_any w0 b _ tb _ H1.out (by have := S1.out.1; have := S1.out.2; omega) h1).mono ?_
  rintro en w102 ⟨rfl, g1, k1⟩
  have H2 : Hid (PrX w0 w102 b (nmP (putP (⟨[], [], false⟩ : Pst) (opT 3) true) tb)) := g1; have K2 := Lib.hid (K1.out.trans k1); have HK2 := Lib.hid (k1 _ _ _ (by decide) hKb HK1.out); have S2 : Hid (St 200 (nmP (putP (⟨[], [], false⟩ : Pst) (opT 3) true) tb)) := (S1.out.nm tb)
  clear g1 k1
  try clear x0
  clear x1
  have x0 := HK2.out.at 0 _ rfl
  go_wp2_with fail
  refine (pword_any w0 b _ ⟨#[116, 111]⟩ _ H2.out (by have := S2.out.1; have := S2.out.2; show _ + _ + 2 ≤ _; omega)).mono ?_
  rintro en w103 ⟨rfl, g1, k1⟩
  have H3 : Hid (PrX w0 w103 b (putP (nmP (putP (⟨[], [], false⟩ : Pst) (opT 3) true) tb) toT true)) := g1; have K3 := Lib.hid (K2.out.trans k1); have HK3 := Lib.hid (k1 _ _ _ (by decide) hKb HK2.out); have S3 : Hid (St 300 (putP (nmP (putP (⟨[], [], false⟩ : Pst) (opT 3) true) tb) toT true)) := (S2.out.word toT (by decide))
  clear g1 k1
  try clear x0
  have x3 := HK3.out.at 3 _ rfl
  have x0 := HK3.out.at 0 _ rfl
  go_wp2_with fail
  refine (pname_any w0 b _ to2 _ H3.out (by have := S3.out.1; have := S3.out.2; omega) h3).mono ?_
  rintro en w104 ⟨rfl, g1, k1⟩
  have H4 : Hid (PrX w0 w104 b (nmP (putP (nmP (putP (⟨[], [], false⟩ : Pst) (opT 3) true) tb) toT true) to2)) := g1; have K4 := Lib.hid (K3.out.trans k1); have HK4 := Lib.hid (k1 _ _ _ (by decide) hKb HK3.out); have S4 : Hid (St 400 (nmP (putP (nmP (putP (⟨[], [], false⟩ : Pst) (opT 3) true) tb) toT true) to2)) := (S3.out.nm to2)
  clear g1 k1
  try clear x0
  clear x3
  have x0 := HK4.out.at 0 _ rfl
  go_wp2_with fail
  first | go_end0 | refine bodyPost_ret (results_none rfl _ _ _) rfl ?_
  exact ⟨rfl, H4.out, K4.out⟩
set_option maxRecDepth 100000 in
set_option maxHeartbeats 3200000 in
theorem pchg4_any (w0 : World) (b : Nat) (tb co to2 ke : ByteArray) (tk tm : Int) (nl : Bool) (dk dn : Int) (ds : ByteArray) (cols : List Cb) (A : Option Addr) (cap : Nat) (w : World) (h : PrX w0 w b ⟨[], [], false⟩) (hT : Tbs w0) (hA : ColsAt w0 w0.heap.size A cols) (hP : WfP ⟨(4 : Int), tb, co, to2, ke, tk, tm, nl, dk, dn, ds, cols⟩) :
    Calls Tryz.prog 20 #[.pointer (some ⟨b, 0, none⟩), .agg #[.int .i64 4, .string tb, .string co, .string to2, .string ke, .int .i64 tk, .int .i64 tm, .bool nl, .int .i64 dk, .int .i64 dn, .string ds, .slice A cols.length cap]] w fun en w' => PrE w0 b (chgP ⟨(4 : Int), tb, co, to2, ke, tk, tm, nl, dk, dn, ds, cols⟩) w en w' := by
  obtain ⟨h1, h2, h3, h4, h5, ⟨h6, h7⟩, h8, h9⟩ := hP
  have H9 := Lib.hid h9; have HA := Lib.hid hA; clear h9 hA
  replace h1 : tb.size ≤ 1000000 := h1
  replace h2 : co.size ≤ 1000000 := h2
  replace h3 : to2.size ≤ 1000000 := h3
  replace h4 : ke.size ≤ 1000000 := h4
  replace h5 : ds.size ≤ 1000000 := h5
  replace h6 : -9223372036854775808 ≤ dn := h6
  replace h7 : dn < 9223372036854775808 := h7
  replace h8 : cols.length ≤ 1000000 := h8
  obtain ⟨wa, hwa⟩ : ∃ wa, w.alloc (.cells #[.int .i64 4, .string tb, .string co, .string to2, .string ke, .int .i64 tk, .int .i64 tm, .bool nl, .int .i64 dk, .int .i64 dn, .string ds, .slice A cols.length cap] 28) = wa := ⟨_, rfl⟩
  have hba : Below w.heap.size w wa := by rw [← hwa]; exact (Below.refl _ _).alloc (Nat.le_refl _) _
  have HK0 : Hid (Bk 28 wa w.heap.size [.int .i64 4, .string tb, .string co, .string to2, .string ke, .int .i64 tk, .int .i64 tm, .bool nl, .int .i64 dk, .int .i64 dn, .string ds, .slice A cols.length cap]) := by rw [← hwa]; exact Bk.new w [.int .i64 4, .string tb, .string co, .string to2, .string ke, .int .i64 tk, .int .i64 tm, .bool nl, .int .i64 dk, .int .i64 dn, .string ds, .slice A cols.length cap] 28
  have hKb : w.heap.size ≠ b := by have := h.lt; omega
  have Hwa := Lib.hid hwa; clear hwa
  have H0 := Lib.hid (h.below hba); have K0 := Lib.hid (Keep.of_below (b := b) hba)
  have HW0 := Lib.hid (hT.2.2.below h.bel (Nat.le_refl _))
  clear h hba
  have S0 : Hid (St 0 (⟨[], [], false⟩ : Pst)) := ⟨Nat.le_refl _, Nat.zero_le _⟩
  have tk0 : ∀ o : Obj, (w.alloc o).cell? ⟨0, 4, none⟩ = some (.string ⟨#[97, 100, 100]⟩) := fun o => (HW0.out.below ((Below.refl w.heap.size w).alloc (Nat.le_refl _) o) (Nat.le_refl _)) 4 (by omega)
  have x0 := HK0.out.at 0 _ rfl
  go_enter Tryz.func20, Tryz.ntmps20
  go_wp2_with fail
  try rw [Hwa.out]
  try go_wp2_with fail
  refine (pword_any w0 b _ ⟨#[97, 100, 100]⟩ _ H0.out (by have := S0.out.1; have := S0.out.2; show _ + _ + 3 ≤ _; omega)).mono ?_
  rintro en w101 ⟨rfl, g1, k1⟩
  have H1 : Hid (PrX w0 w101 b (putP (⟨[], [], false⟩ : Pst) (opT 4) true)) := g1; have K1 := Lib.hid (K0.out.trans k1); have HK1 := Lib.hid (k1 _ _ _ (by decide) hKb HK0.out); have S1 : Hid (St 100 (putP (⟨[], [], false⟩ : Pst) (opT 4) true)) := (S0.out.word (opT 4) (by decide))
  clear g1 k1
  try clear x0
  clear tk0
  have x1 := HK1.out.at 1 _ rfl
  have x0 := HK1.out.at 0 _ rfl
  go_wp2_with fail
  refine (pname_any w0 b _ tb _ H1.out (by have := S1.out.1; have := S1.out.2; omega) h1).mono ?_
  rintro en w102 ⟨rfl, g1, k1⟩
  have H2 : Hid (PrX w0 w102 b (nmP (putP (⟨[], [], false⟩ : Pst) (opT 4) true) tb)) := g1; have K2 := Lib.hid (K1.out.trans k1); have HK2 := Lib.hid (k1 _ _ _ (by decide) hKb HK1.out); have S2 : Hid (St 200 (nmP (putP (⟨[], [], false⟩ : Pst) (opT 4) true) tb)) := (S1.out.nm tb)
  clear g1 k1
  try clear x0
  clear x1
  have x2 := HK2.out.at 2 _ rfl
  have x5 := HK2.out.at 5 _ rfl
  have x6 := HK2.out.at 6 _ rfl
  have x7 := HK2.out.at 7 _ rfl
  have x8 := HK2.out.at 8 _ rfl
  have x9 := HK2.out.at 9 _ rfl
  have x10 := HK2.out.at 10 _ rfl
  have x0 := HK2.out.at 0 _ rfl
  go_wp2_with fail
  refine (pcolumn_any w0 b _ ⟨0, co, tk, tm, nl, dk, dn, ds⟩ _ H2.out hT (S2.out.more (by omega)) ⟨h2, h5, h6, h7⟩).mono ?_
  rintro en w103 ⟨rfl, g1, k1⟩
  have H3 : Hid (PrX w0 w103 b (clP (nmP (putP (⟨[], [], false⟩ : Pst) (opT 4) true) tb) ⟨0, co, tk, tm, nl, dk, dn, ds⟩)) := g1; have K3 := Lib.hid (K2.out.trans k1); have HK3 := Lib.hid (k1 _ _ _ (by decide) hKb HK2.out); have S3 : Hid (St 1600 (clP (nmP (putP (⟨[], [], false⟩ : Pst) (opT 4) true) tb) ⟨0, co, tk, tm, nl, dk, dn, ds⟩)) := (S2.out.cl (c := ⟨0, co, tk, tm, nl, dk, dn, ds⟩) ⟨h2, h5, h6, h7⟩)
  clear g1 k1
  try clear x0
  clear x2
  clear x5
  clear x6
  clear x7
  clear x8
  clear x9
  clear x10
  have x0 := HK3.out.at 0 _ rfl
  go_wp2_with fail
  first | go_end0 | refine bodyPost_ret (results_none rfl _ _ _) rfl ?_
  exact ⟨rfl, H3.out, K3.out⟩
set_option maxRecDepth 100000 in
set_option maxHeartbeats 3200000 in
theorem pchg5_any (w0 : World) (b : Nat) (tb co to2 ke : ByteArray) (tk tm : Int) (nl : Bool) (dk dn : Int) (ds : ByteArray) (cols : List Cb) (A : Option Addr) (cap : Nat) (w : World) (h : PrX w0 w b ⟨[], [], false⟩) (hT : Tbs w0) (hA : ColsAt w0 w0.heap.size A cols) (hP : WfP ⟨(5 : Int), tb, co, to2, ke, tk, tm, nl, dk, dn, ds, cols⟩) :
    Calls Tryz.prog 20 #[.pointer (some ⟨b, 0, none⟩), .agg #[.int .i64 5, .string tb, .string co, .string to2, .string ke, .int .i64 tk, .int .i64 tm, .bool nl, .int .i64 dk, .int .i64 dn, .string ds, .slice A cols.length cap]] w fun en w' => PrE w0 b (chgP ⟨(5 : Int), tb, co, to2, ke, tk, tm, nl, dk, dn, ds, cols⟩) w en w' := by
  obtain ⟨h1, h2, h3, h4, h5, ⟨h6, h7⟩, h8, h9⟩ := hP
  have H9 := Lib.hid h9; have HA := Lib.hid hA; clear h9 hA
  replace h1 : tb.size ≤ 1000000 := h1
  replace h2 : co.size ≤ 1000000 := h2
  replace h3 : to2.size ≤ 1000000 := h3
  replace h4 : ke.size ≤ 1000000 := h4
  replace h5 : ds.size ≤ 1000000 := h5
  replace h6 : -9223372036854775808 ≤ dn := h6
  replace h7 : dn < 9223372036854775808 := h7
  replace h8 : cols.length ≤ 1000000 := h8
  obtain ⟨wa, hwa⟩ : ∃ wa, w.alloc (.cells #[.int .i64 5, .string tb, .string co, .string to2, .string ke, .int .i64 tk, .int .i64 tm, .bool nl, .int .i64 dk, .int .i64 dn, .string ds, .slice A cols.length cap] 28) = wa := ⟨_, rfl⟩
  have hba : Below w.heap.size w wa := by rw [← hwa]; exact (Below.refl _ _).alloc (Nat.le_refl _) _
  have HK0 : Hid (Bk 28 wa w.heap.size [.int .i64 5, .string tb, .string co, .string to2, .string ke, .int .i64 tk, .int .i64 tm, .bool nl, .int .i64 dk, .int .i64 dn, .string ds, .slice A cols.length cap]) := by rw [← hwa]; exact Bk.new w [.int .i64 5, .string tb, .string co, .string to2, .string ke, .int .i64 tk, .int .i64 tm, .bool nl, .int .i64 dk, .int .i64 dn, .string ds, .slice A cols.length cap] 28
  have hKb : w.heap.size ≠ b := by have := h.lt; omega
  have Hwa := Lib.hid hwa; clear hwa
  have H0 := Lib.hid (h.below hba); have K0 := Lib.hid (Keep.of_below (b := b) hba)
  have HW0 := Lib.hid (hT.2.2.below h.bel (Nat.le_refl _))
  clear h hba
  have S0 : Hid (St 0 (⟨[], [], false⟩ : Pst)) := ⟨Nat.le_refl _, Nat.zero_le _⟩
  have tk0 : ∀ o : Obj, (w.alloc o).cell? ⟨0, 5, none⟩ = some (.string ⟨#[99, 117, 116]⟩) := fun o => (HW0.out.below ((Below.refl w.heap.size w).alloc (Nat.le_refl _) o) (Nat.le_refl _)) 5 (by omega)
  have x0 := HK0.out.at 0 _ rfl
  go_enter Tryz.func20, Tryz.ntmps20
  go_wp2_with fail
  try rw [Hwa.out]
  try go_wp2_with fail
  refine (pword_any w0 b _ ⟨#[99, 117, 116]⟩ _ H0.out (by have := S0.out.1; have := S0.out.2; show _ + _ + 3 ≤ _; omega)).mono ?_
  rintro en w101 ⟨rfl, g1, k1⟩
  have H1 : Hid (PrX w0 w101 b (putP (⟨[], [], false⟩ : Pst) (opT 5) true)) := g1; have K1 := Lib.hid (K0.out.trans k1); have HK1 := Lib.hid (k1 _ _ _ (by decide) hKb HK0.out); have S1 : Hid (St 100 (putP (⟨[], [], false⟩ : Pst) (opT 5) true)) := (S0.out.word (opT 5) (by decide))
  clear g1 k1
  try clear x0
  clear tk0
  have x1 := HK1.out.at 1 _ rfl
  have x0 := HK1.out.at 0 _ rfl
  go_wp2_with fail
  refine (pname_any w0 b _ tb _ H1.out (by have := S1.out.1; have := S1.out.2; omega) h1).mono ?_
  rintro en w102 ⟨rfl, g1, k1⟩
  have H2 : Hid (PrX w0 w102 b (nmP (putP (⟨[], [], false⟩ : Pst) (opT 5) true) tb)) := g1; have K2 := Lib.hid (K1.out.trans k1); have HK2 := Lib.hid (k1 _ _ _ (by decide) hKb HK1.out); have S2 : Hid (St 200 (nmP (putP (⟨[], [], false⟩ : Pst) (opT 5) true) tb)) := (S1.out.nm tb)
  clear g1 k1
  try clear x0
  clear x1
  have x2 := HK2.out.at 2 _ rfl
  have x0 := HK2.out.at 0 _ rfl
  go_wp2_with fail
  refine (pname_any w0 b _ co _ H2.out (by have := S2.out.1; have := S2.out.2; omega) h2).mono ?_
  rintro en w103 ⟨rfl, g1, k1⟩
  have H3 : Hid (PrX w0 w103 b (nmP (nmP (putP (⟨[], [], false⟩ : Pst) (opT 5) true) tb) co)) := g1; have K3 := Lib.hid (K2.out.trans k1); have HK3 := Lib.hid (k1 _ _ _ (by decide) hKb HK2.out); have S3 : Hid (St 300 (nmP (nmP (putP (⟨[], [], false⟩ : Pst) (opT 5) true) tb) co)) := (S2.out.nm co)
  clear g1 k1
  try clear x0
  clear x2
  have x0 := HK3.out.at 0 _ rfl
  go_wp2_with fail
  first | go_end0 | refine bodyPost_ret (results_none rfl _ _ _) rfl ?_
  exact ⟨rfl, H3.out, K3.out⟩
set_option maxRecDepth 100000 in
set_option maxHeartbeats 3200000 in
theorem pchg6_any (w0 : World) (b : Nat) (tb co to2 ke : ByteArray) (tk tm : Int) (nl : Bool) (dk dn : Int) (ds : ByteArray) (cols : List Cb) (A : Option Addr) (cap : Nat) (w : World) (h : PrX w0 w b ⟨[], [], false⟩) (hT : Tbs w0) (hA : ColsAt w0 w0.heap.size A cols) (hP : WfP ⟨(6 : Int), tb, co, to2, ke, tk, tm, nl, dk, dn, ds, cols⟩) :
    Calls Tryz.prog 20 #[.pointer (some ⟨b, 0, none⟩), .agg #[.int .i64 6, .string tb, .string co, .string to2, .string ke, .int .i64 tk, .int .i64 tm, .bool nl, .int .i64 dk, .int .i64 dn, .string ds, .slice A cols.length cap]] w fun en w' => PrE w0 b (chgP ⟨(6 : Int), tb, co, to2, ke, tk, tm, nl, dk, dn, ds, cols⟩) w en w' := by
  obtain ⟨h1, h2, h3, h4, h5, ⟨h6, h7⟩, h8, h9⟩ := hP
  have H9 := Lib.hid h9; have HA := Lib.hid hA; clear h9 hA
  replace h1 : tb.size ≤ 1000000 := h1
  replace h2 : co.size ≤ 1000000 := h2
  replace h3 : to2.size ≤ 1000000 := h3
  replace h4 : ke.size ≤ 1000000 := h4
  replace h5 : ds.size ≤ 1000000 := h5
  replace h6 : -9223372036854775808 ≤ dn := h6
  replace h7 : dn < 9223372036854775808 := h7
  replace h8 : cols.length ≤ 1000000 := h8
  obtain ⟨wa, hwa⟩ : ∃ wa, w.alloc (.cells #[.int .i64 6, .string tb, .string co, .string to2, .string ke, .int .i64 tk, .int .i64 tm, .bool nl, .int .i64 dk, .int .i64 dn, .string ds, .slice A cols.length cap] 28) = wa := ⟨_, rfl⟩
  have hba : Below w.heap.size w wa := by rw [← hwa]; exact (Below.refl _ _).alloc (Nat.le_refl _) _
  have HK0 : Hid (Bk 28 wa w.heap.size [.int .i64 6, .string tb, .string co, .string to2, .string ke, .int .i64 tk, .int .i64 tm, .bool nl, .int .i64 dk, .int .i64 dn, .string ds, .slice A cols.length cap]) := by rw [← hwa]; exact Bk.new w [.int .i64 6, .string tb, .string co, .string to2, .string ke, .int .i64 tk, .int .i64 tm, .bool nl, .int .i64 dk, .int .i64 dn, .string ds, .slice A cols.length cap] 28
  have hKb : w.heap.size ≠ b := by have := h.lt; omega
  have Hwa := Lib.hid hwa; clear hwa
  have H0 := Lib.hid (h.below hba); have K0 := Lib.hid (Keep.of_below (b := b) hba)
  have HW0 := Lib.hid (hT.2.2.below h.bel (Nat.le_refl _))
  clear h hba
  have S0 : Hid (St 0 (⟨[], [], false⟩ : Pst)) := ⟨Nat.le_refl _, Nat.zero_le _⟩
  have tk0 : ∀ o : Obj, (w.alloc o).cell? ⟨0, 6, none⟩ = some (.string ⟨#[99, 97, 108, 108]⟩) := fun o => (HW0.out.below ((Below.refl w.heap.size w).alloc (Nat.le_refl _) o) (Nat.le_refl _)) 6 (by omega)
  have x0 := HK0.out.at 0 _ rfl
  go_enter Tryz.func20, Tryz.ntmps20
  go_wp2_with fail
  try rw [Hwa.out]
  try go_wp2_with fail
  refine (pword_any w0 b _ ⟨#[99, 97, 108, 108]⟩ _ H0.out (by have := S0.out.1; have := S0.out.2; show _ + _ + 4 ≤ _; omega)).mono ?_
  rintro en w101 ⟨rfl, g1, k1⟩
  have H1 : Hid (PrX w0 w101 b (putP (⟨[], [], false⟩ : Pst) (opT 6) true)) := g1; have K1 := Lib.hid (K0.out.trans k1); have HK1 := Lib.hid (k1 _ _ _ (by decide) hKb HK0.out); have S1 : Hid (St 100 (putP (⟨[], [], false⟩ : Pst) (opT 6) true)) := (S0.out.word (opT 6) (by decide))
  clear g1 k1
  try clear x0
  clear tk0
  have x1 := HK1.out.at 1 _ rfl
  have x0 := HK1.out.at 0 _ rfl
  go_wp2_with fail
  refine (pname_any w0 b _ tb _ H1.out (by have := S1.out.1; have := S1.out.2; omega) h1).mono ?_
  rintro en w102 ⟨rfl, g1, k1⟩
  have H2 : Hid (PrX w0 w102 b (nmP (putP (⟨[], [], false⟩ : Pst) (opT 6) true) tb)) := g1; have K2 := Lib.hid (K1.out.trans k1); have HK2 := Lib.hid (k1 _ _ _ (by decide) hKb HK1.out); have S2 : Hid (St 200 (nmP (putP (⟨[], [], false⟩ : Pst) (opT 6) true) tb)) := (S1.out.nm tb)
  clear g1 k1
  try clear x0
  clear x1
  have x2 := HK2.out.at 2 _ rfl
  have x0 := HK2.out.at 0 _ rfl
  go_wp2_with fail
  refine (pname_any w0 b _ co _ H2.out (by have := S2.out.1; have := S2.out.2; omega) h2).mono ?_
  rintro en w103 ⟨rfl, g1, k1⟩
  have H3 : Hid (PrX w0 w103 b (nmP (nmP (putP (⟨[], [], false⟩ : Pst) (opT 6) true) tb) co)) := g1; have K3 := Lib.hid (K2.out.trans k1); have HK3 := Lib.hid (k1 _ _ _ (by decide) hKb HK2.out); have S3 : Hid (St 300 (nmP (nmP (putP (⟨[], [], false⟩ : Pst) (opT 6) true) tb) co)) := (S2.out.nm co)
  clear g1 k1
  try clear x0
  clear x2
  have x0 := HK3.out.at 0 _ rfl
  go_wp2_with fail
  refine (pword_any w0 b _ ⟨#[116, 111]⟩ _ H3.out (by have := S3.out.1; have := S3.out.2; show _ + _ + 2 ≤ _; omega)).mono ?_
  rintro en w104 ⟨rfl, g1, k1⟩
  have H4 : Hid (PrX w0 w104 b (putP (nmP (nmP (putP (⟨[], [], false⟩ : Pst) (opT 6) true) tb) co) toT true)) := g1; have K4 := Lib.hid (K3.out.trans k1); have HK4 := Lib.hid (k1 _ _ _ (by decide) hKb HK3.out); have S4 : Hid (St 400 (putP (nmP (nmP (putP (⟨[], [], false⟩ : Pst) (opT 6) true) tb) co) toT true)) := (S3.out.word toT (by decide))
  clear g1 k1
  try clear x0
  have x3 := HK4.out.at 3 _ rfl
  have x0 := HK4.out.at 0 _ rfl
  go_wp2_with fail
  refine (pname_any w0 b _ to2 _ H4.out (by have := S4.out.1; have := S4.out.2; omega) h3).mono ?_
  rintro en w105 ⟨rfl, g1, k1⟩
  have H5 : Hid (PrX w0 w105 b (nmP (putP (nmP (nmP (putP (⟨[], [], false⟩ : Pst) (opT 6) true) tb) co) toT true) to2)) := g1; have K5 := Lib.hid (K4.out.trans k1); have HK5 := Lib.hid (k1 _ _ _ (by decide) hKb HK4.out); have S5 : Hid (St 500 (nmP (putP (nmP (nmP (putP (⟨[], [], false⟩ : Pst) (opT 6) true) tb) co) toT true) to2)) := (S4.out.nm to2)
  clear g1 k1
  try clear x0
  clear x3
  have x0 := HK5.out.at 0 _ rfl
  go_wp2_with fail
  first | go_end0 | refine bodyPost_ret (results_none rfl _ _ _) rfl ?_
  exact ⟨rfl, H5.out, K5.out⟩
set_option maxRecDepth 100000 in
set_option maxHeartbeats 3200000 in
theorem pchg7_any (w0 : World) (b : Nat) (tb co to2 ke : ByteArray) (tk tm : Int) (nl : Bool) (dk dn : Int) (ds : ByteArray) (cols : List Cb) (A : Option Addr) (cap : Nat) (w : World) (h : PrX w0 w b ⟨[], [], false⟩) (hT : Tbs w0) (hA : ColsAt w0 w0.heap.size A cols) (hP : WfP ⟨(7 : Int), tb, co, to2, ke, tk, tm, nl, dk, dn, ds, cols⟩) :
    Calls Tryz.prog 20 #[.pointer (some ⟨b, 0, none⟩), .agg #[.int .i64 7, .string tb, .string co, .string to2, .string ke, .int .i64 tk, .int .i64 tm, .bool nl, .int .i64 dk, .int .i64 dn, .string ds, .slice A cols.length cap]] w fun en w' => PrE w0 b (chgP ⟨(7 : Int), tb, co, to2, ke, tk, tm, nl, dk, dn, ds, cols⟩) w en w' := by
  obtain ⟨h1, h2, h3, h4, h5, ⟨h6, h7⟩, h8, h9⟩ := hP
  have H9 := Lib.hid h9; have HA := Lib.hid hA; clear h9 hA
  replace h1 : tb.size ≤ 1000000 := h1
  replace h2 : co.size ≤ 1000000 := h2
  replace h3 : to2.size ≤ 1000000 := h3
  replace h4 : ke.size ≤ 1000000 := h4
  replace h5 : ds.size ≤ 1000000 := h5
  replace h6 : -9223372036854775808 ≤ dn := h6
  replace h7 : dn < 9223372036854775808 := h7
  replace h8 : cols.length ≤ 1000000 := h8
  obtain ⟨wa, hwa⟩ : ∃ wa, w.alloc (.cells #[.int .i64 7, .string tb, .string co, .string to2, .string ke, .int .i64 tk, .int .i64 tm, .bool nl, .int .i64 dk, .int .i64 dn, .string ds, .slice A cols.length cap] 28) = wa := ⟨_, rfl⟩
  have hba : Below w.heap.size w wa := by rw [← hwa]; exact (Below.refl _ _).alloc (Nat.le_refl _) _
  have HK0 : Hid (Bk 28 wa w.heap.size [.int .i64 7, .string tb, .string co, .string to2, .string ke, .int .i64 tk, .int .i64 tm, .bool nl, .int .i64 dk, .int .i64 dn, .string ds, .slice A cols.length cap]) := by rw [← hwa]; exact Bk.new w [.int .i64 7, .string tb, .string co, .string to2, .string ke, .int .i64 tk, .int .i64 tm, .bool nl, .int .i64 dk, .int .i64 dn, .string ds, .slice A cols.length cap] 28
  have hKb : w.heap.size ≠ b := by have := h.lt; omega
  have Hwa := Lib.hid hwa; clear hwa
  have H0 := Lib.hid (h.below hba); have K0 := Lib.hid (Keep.of_below (b := b) hba)
  have HW0 := Lib.hid (hT.2.2.below h.bel (Nat.le_refl _))
  clear h hba
  have S0 : Hid (St 0 (⟨[], [], false⟩ : Pst)) := ⟨Nat.le_refl _, Nat.zero_le _⟩
  have tk0 : ∀ o : Obj, (w.alloc o).cell? ⟨0, 7, none⟩ = some (.string ⟨#[119, 105, 100, 101, 110]⟩) := fun o => (HW0.out.below ((Below.refl w.heap.size w).alloc (Nat.le_refl _) o) (Nat.le_refl _)) 7 (by omega)
  have x0 := HK0.out.at 0 _ rfl
  go_enter Tryz.func20, Tryz.ntmps20
  go_wp2_with fail
  try rw [Hwa.out]
  try go_wp2_with fail
  refine (pword_any w0 b _ ⟨#[119, 105, 100, 101, 110]⟩ _ H0.out (by have := S0.out.1; have := S0.out.2; show _ + _ + 5 ≤ _; omega)).mono ?_
  rintro en w101 ⟨rfl, g1, k1⟩
  have H1 : Hid (PrX w0 w101 b (putP (⟨[], [], false⟩ : Pst) (opT 7) true)) := g1; have K1 := Lib.hid (K0.out.trans k1); have HK1 := Lib.hid (k1 _ _ _ (by decide) hKb HK0.out); have S1 : Hid (St 100 (putP (⟨[], [], false⟩ : Pst) (opT 7) true)) := (S0.out.word (opT 7) (by decide))
  clear g1 k1
  try clear x0
  clear tk0
  have x1 := HK1.out.at 1 _ rfl
  have x0 := HK1.out.at 0 _ rfl
  go_wp2_with fail
  refine (pname_any w0 b _ tb _ H1.out (by have := S1.out.1; have := S1.out.2; omega) h1).mono ?_
  rintro en w102 ⟨rfl, g1, k1⟩
  have H2 : Hid (PrX w0 w102 b (nmP (putP (⟨[], [], false⟩ : Pst) (opT 7) true) tb)) := g1; have K2 := Lib.hid (K1.out.trans k1); have HK2 := Lib.hid (k1 _ _ _ (by decide) hKb HK1.out); have S2 : Hid (St 200 (nmP (putP (⟨[], [], false⟩ : Pst) (opT 7) true) tb)) := (S1.out.nm tb)
  clear g1 k1
  try clear x0
  clear x1
  have x2 := HK2.out.at 2 _ rfl
  have x0 := HK2.out.at 0 _ rfl
  go_wp2_with fail
  refine (pname_any w0 b _ co _ H2.out (by have := S2.out.1; have := S2.out.2; omega) h2).mono ?_
  rintro en w103 ⟨rfl, g1, k1⟩
  have H3 : Hid (PrX w0 w103 b (nmP (nmP (putP (⟨[], [], false⟩ : Pst) (opT 7) true) tb) co)) := g1; have K3 := Lib.hid (K2.out.trans k1); have HK3 := Lib.hid (k1 _ _ _ (by decide) hKb HK2.out); have S3 : Hid (St 300 (nmP (nmP (putP (⟨[], [], false⟩ : Pst) (opT 7) true) tb) co)) := (S2.out.nm co)
  clear g1 k1
  try clear x0
  clear x2
  have x5 := HK3.out.at 5 _ rfl
  have x6 := HK3.out.at 6 _ rfl
  have x0 := HK3.out.at 0 _ rfl
  go_wp2_with fail
  refine (pkind_any w0 b _ tk tm _ H3.out hT (by have := S3.out.1; have := S3.out.2; omega)).mono ?_
  rintro en w104 ⟨rfl, g1, k1⟩
  have H4 : Hid (PrX w0 w104 b (kindP (nmP (nmP (putP (⟨[], [], false⟩ : Pst) (opT 7) true) tb) co) tk tm)) := g1; have K4 := Lib.hid (K3.out.trans k1); have HK4 := Lib.hid (k1 _ _ _ (by decide) hKb HK3.out); have S4 : Hid (St 400 (kindP (nmP (nmP (putP (⟨[], [], false⟩ : Pst) (opT 7) true) tb) co) tk tm)) := (S3.out.kind tk tm)
  clear g1 k1
  try clear x0
  clear x5
  clear x6
  have x0 := HK4.out.at 0 _ rfl
  go_wp2_with fail
  first | go_end0 | refine bodyPost_ret (results_none rfl _ _ _) rfl ?_
  exact ⟨rfl, H4.out, K4.out⟩
set_option maxRecDepth 100000 in
set_option maxHeartbeats 3200000 in
theorem pchg8_any (w0 : World) (b : Nat) (tb co to2 ke : ByteArray) (tk tm : Int) (nl : Bool) (dk dn : Int) (ds : ByteArray) (cols : List Cb) (A : Option Addr) (cap : Nat) (w : World) (h : PrX w0 w b ⟨[], [], false⟩) (hT : Tbs w0) (hA : ColsAt w0 w0.heap.size A cols) (hP : WfP ⟨(8 : Int), tb, co, to2, ke, tk, tm, nl, dk, dn, ds, cols⟩) :
    Calls Tryz.prog 20 #[.pointer (some ⟨b, 0, none⟩), .agg #[.int .i64 8, .string tb, .string co, .string to2, .string ke, .int .i64 tk, .int .i64 tm, .bool nl, .int .i64 dk, .int .i64 dn, .string ds, .slice A cols.length cap]] w fun en w' => PrE w0 b (chgP ⟨(8 : Int), tb, co, to2, ke, tk, tm, nl, dk, dn, ds, cols⟩) w en w' := by
  obtain ⟨h1, h2, h3, h4, h5, ⟨h6, h7⟩, h8, h9⟩ := hP
  have H9 := Lib.hid h9; have HA := Lib.hid hA; clear h9 hA
  replace h1 : tb.size ≤ 1000000 := h1
  replace h2 : co.size ≤ 1000000 := h2
  replace h3 : to2.size ≤ 1000000 := h3
  replace h4 : ke.size ≤ 1000000 := h4
  replace h5 : ds.size ≤ 1000000 := h5
  replace h6 : -9223372036854775808 ≤ dn := h6
  replace h7 : dn < 9223372036854775808 := h7
  replace h8 : cols.length ≤ 1000000 := h8
  obtain ⟨wa, hwa⟩ : ∃ wa, w.alloc (.cells #[.int .i64 8, .string tb, .string co, .string to2, .string ke, .int .i64 tk, .int .i64 tm, .bool nl, .int .i64 dk, .int .i64 dn, .string ds, .slice A cols.length cap] 28) = wa := ⟨_, rfl⟩
  have hba : Below w.heap.size w wa := by rw [← hwa]; exact (Below.refl _ _).alloc (Nat.le_refl _) _
  have HK0 : Hid (Bk 28 wa w.heap.size [.int .i64 8, .string tb, .string co, .string to2, .string ke, .int .i64 tk, .int .i64 tm, .bool nl, .int .i64 dk, .int .i64 dn, .string ds, .slice A cols.length cap]) := by rw [← hwa]; exact Bk.new w [.int .i64 8, .string tb, .string co, .string to2, .string ke, .int .i64 tk, .int .i64 tm, .bool nl, .int .i64 dk, .int .i64 dn, .string ds, .slice A cols.length cap] 28
  have hKb : w.heap.size ≠ b := by have := h.lt; omega
  have Hwa := Lib.hid hwa; clear hwa
  have H0 := Lib.hid (h.below hba); have K0 := Lib.hid (Keep.of_below (b := b) hba)
  have HW0 := Lib.hid (hT.2.2.below h.bel (Nat.le_refl _))
  clear h hba
  have S0 : Hid (St 0 (⟨[], [], false⟩ : Pst)) := ⟨Nat.le_refl _, Nat.zero_le _⟩
  have tk0 : ∀ o : Obj, (w.alloc o).cell? ⟨0, 8, none⟩ = some (.string ⟨#[112, 114, 101, 115, 101, 116]⟩) := fun o => (HW0.out.below ((Below.refl w.heap.size w).alloc (Nat.le_refl _) o) (Nat.le_refl _)) 8 (by omega)
  have x0 := HK0.out.at 0 _ rfl
  go_enter Tryz.func20, Tryz.ntmps20
  go_wp2_with fail
  try rw [Hwa.out]
  try go_wp2_with fail
  refine (pword_any w0 b _ ⟨#[112, 114, 101, 115, 101, 116]⟩ _ H0.out (by have := S0.out.1; have := S0.out.2; show _ + _ + 6 ≤ _; omega)).mono ?_
  rintro en w101 ⟨rfl, g1, k1⟩
  have H1 : Hid (PrX w0 w101 b (putP (⟨[], [], false⟩ : Pst) (opT 8) true)) := g1; have K1 := Lib.hid (K0.out.trans k1); have HK1 := Lib.hid (k1 _ _ _ (by decide) hKb HK0.out); have S1 : Hid (St 100 (putP (⟨[], [], false⟩ : Pst) (opT 8) true)) := (S0.out.word (opT 8) (by decide))
  clear g1 k1
  try clear x0
  clear tk0
  have x1 := HK1.out.at 1 _ rfl
  have x0 := HK1.out.at 0 _ rfl
  go_wp2_with fail
  refine (pname_any w0 b _ tb _ H1.out (by have := S1.out.1; have := S1.out.2; omega) h1).mono ?_
  rintro en w102 ⟨rfl, g1, k1⟩
  have H2 : Hid (PrX w0 w102 b (nmP (putP (⟨[], [], false⟩ : Pst) (opT 8) true) tb)) := g1; have K2 := Lib.hid (K1.out.trans k1); have HK2 := Lib.hid (k1 _ _ _ (by decide) hKb HK1.out); have S2 : Hid (St 200 (nmP (putP (⟨[], [], false⟩ : Pst) (opT 8) true) tb)) := (S1.out.nm tb)
  clear g1 k1
  try clear x0
  clear x1
  have x2 := HK2.out.at 2 _ rfl
  have x0 := HK2.out.at 0 _ rfl
  go_wp2_with fail
  refine (pname_any w0 b _ co _ H2.out (by have := S2.out.1; have := S2.out.2; omega) h2).mono ?_
  rintro en w103 ⟨rfl, g1, k1⟩
  have H3 : Hid (PrX w0 w103 b (nmP (nmP (putP (⟨[], [], false⟩ : Pst) (opT 8) true) tb) co)) := g1; have K3 := Lib.hid (K2.out.trans k1); have HK3 := Lib.hid (k1 _ _ _ (by decide) hKb HK2.out); have S3 : Hid (St 300 (nmP (nmP (putP (⟨[], [], false⟩ : Pst) (opT 8) true) tb) co)) := (S2.out.nm co)
  clear g1 k1
  try clear x0
  clear x2
  have x8 := HK3.out.at 8 _ rfl
  have x9 := HK3.out.at 9 _ rfl
  have x10 := HK3.out.at 10 _ rfl
  have x0 := HK3.out.at 0 _ rfl
  go_wp2_with fail
  refine (pvalue_any w0 b _ dk dn ds _ H3.out hT (by have := S3.out.1; have := S3.out.2; omega) h6 h7 h5).mono ?_
  rintro en w104 ⟨rfl, g1, k1⟩
  have H4 : Hid (PrX w0 w104 b (valP (nmP (nmP (putP (⟨[], [], false⟩ : Pst) (opT 8) true) tb) co) dk dn ds)) := g1; have K4 := Lib.hid (K3.out.trans k1); have HK4 := Lib.hid (k1 _ _ _ (by decide) hKb HK3.out); have S4 : Hid (St 1300 (valP (nmP (nmP (putP (⟨[], [], false⟩ : Pst) (opT 8) true) tb) co) dk dn ds)) := (S3.out.val (k := dk) (s := ds) h6 h7)
  clear g1 k1
  try clear x0
  clear x8
  clear x9
  clear x10
  have x0 := HK4.out.at 0 _ rfl
  go_wp2_with fail
  first | go_end0 | refine bodyPost_ret (results_none rfl _ _ _) rfl ?_
  exact ⟨rfl, H4.out, K4.out⟩
/-- a change is printed -/
theorem pchange_any (w0 : World) (b : Nat) (d : Db) (w : World) (h : PrX w0 w b ⟨[], [], false⟩) (hT : Tbs w0) (hop : 1 ≤ d.p.op ∧ d.p.op ≤ 8) (hA : DdlAt w0 w0.heap.size d) (hP : WfP d.p) :
    Calls Tryz.prog 20 #[.pointer (some ⟨b, 0, none⟩), DV d] w fun en w' => PrE w0 b (chgP d.p) w en w' := by
  obtain ⟨⟨op, tb, co, to2, ke, tk, tm, nl, dk, dn, ds, cols⟩, A, cap⟩ := d
  have hop : 1 ≤ op ∧ op ≤ 8 := hop
  rcases (show op = 1 ∨ op = 2 ∨ op = 3 ∨ op = 4 ∨ op = 5 ∨ op = 6 ∨ op = 7 ∨ op = 8 by omega) with rfl | rfl | rfl | rfl | rfl | rfl | rfl | rfl
  · exact pchg1_any w0 b tb co to2 ke tk tm nl dk dn ds cols A cap w h hT hA hP
  · exact pchg2_any w0 b tb co to2 ke tk tm nl dk dn ds cols A cap w h hT hA hP
  · exact pchg3_any w0 b tb co to2 ke tk tm nl dk dn ds cols A cap w h hT hA hP
  · exact pchg4_any w0 b tb co to2 ke tk tm nl dk dn ds cols A cap w h hT hA hP
  · exact pchg5_any w0 b tb co to2 ke tk tm nl dk dn ds cols A cap w h hT hA hP
  · exact pchg6_any w0 b tb co to2 ke tk tm nl dk dn ds cols A cap w h hT hA hP
  · exact pchg7_any w0 b tb co to2 ke tk tm nl dk dn ds cols A cap w h hT hA hP
  · exact pchg8_any w0 b tb co to2 ke tk tm nl dk dn ds cols A cap w h hT hA hP
end Go.Proofs.YtebldfnocpcddaaGreatDoor

/-
  The program's Print and Can of changes (layer 10), whole.
-/
namespace Go.Proofs.YtebldfnocpcddaaGreatDoor
open Go.RowKit

/-- what is printed: the text, the error -/
noncomputable def prD (d : Dp) : ByteArray := if canD d = true then strB (dtx [32] d []) else ⟨#[]⟩
def prE (d : Dp) : Nat := if canD d = true then 0 else 2
theorem opT_len (n : Nat) : (opT n).length ≤ 90 := by
  unfold opT
  split <;> simp
theorem St.chg {d : Dp} (h : WfP d) : St 20000 (chgP d) := by
  obtain ⟨_, _, _, _, _, ⟨h6, h7⟩, _, h9⟩ := h
  have S0 : St 0 (⟨[], [], false⟩ : Pst) := ⟨Nat.le_refl _, Nat.zero_le _⟩
  have S2 := (S0.word (opT d.op.toNat) (opT_len _)).nm d.tb
  unfold chgP rsP
  split
  · exact (((S2.cols h9).word keyT (by decide)).nm d.key).more (by omega)
  split
  · exact S2.more (by omega)
  split
  · exact ((S2.word toT (by decide)).nm d.to).more (by omega)
  split
  · have hc : (⟨0, d.co, d.tk, d.tm, d.nl, d.dk, d.dn, d.ds⟩ : Cb).dn = d.dn := rfl
    unfold clP
    exact (((((S2.nm d.co).kind d.tk d.tm).null d.nl).deflt h6 h7)).more (by omega)
  split
  · exact (S2.nm d.co).more (by omega)
  split
  · exact (((S2.nm d.co).word toT (by decide)).nm d.to).more (by omega)
  split
  · exact ((S2.nm d.co).kind d.tk d.tm).more (by omega)
  · exact ((S2.nm d.co).val h6 h7).more (by omega)
theorem dtx_ne (d : Dp) (h : 1 ≤ d.op ∧ d.op ≤ 8) : dtx [32] d [] ≠ [] := by
  obtain ⟨o, ho⟩ : ∃ o : Nat, d.op = o := ⟨d.op.toNat, by omega⟩
  have hw := (opT_wrd (o := o) (by omega)).1
  intro he
  unfold dtx at he
  have h2 := congrArg List.length he
  rw [List.length_append, ho] at h2
  have h3 : (opT (o : Int).toNat).length = 0 := by
    have : ([] : List UInt8).length = 0 := rfl
    omega
  rw [Int.toNat_natCast] at h3
  rcases (show o = 1 ∨ o = 2 ∨ o = 3 ∨ o = 4 ∨ o = 5 ∨ o = 6 ∨ o = 7 ∨ o = 8 by omega) with rfl | rfl | rfl | rfl | rfl | rfl | rfl | rfl <;> exact absurd h3 (by decide)
theorem canD_plain {d : Dp} (h : canD d = true) : plainD d = true := by
  unfold canD at h
  simp only [Bool.and_eq_true] at h
  exact h.1
set_option maxRecDepth 100000 in
set_option maxHeartbeats 3200000 in
theorem pprint_any (d : Db) (w : World) (hT : Tbs w) (hA : DdlAt w w.heap.size d) (hP : WfP d.p) :
    Calls Tryz.prog 9 #[DV d] w fun e w' => e = .returned (.tuple #[.string (prD d.p), .int .i64 ((prE d.p : Nat) : Int)]) ∧ Below w.heap.size w w' := by
  obtain ⟨wa, hwa⟩ : ∃ wa, w.alloc (.cells #[.int .i64 d.p.op, .string d.p.tb, .string d.p.co, .string d.p.to, .string d.p.key, .int .i64 d.p.tk, .int .i64 d.p.tm, .bool d.p.nl, .int .i64 d.p.dk, .int .i64 d.p.dn, .string d.p.ds, .slice d.A d.p.cols.length d.cap] 28) = wa := ⟨_, rfl⟩
  have hba : Below w.heap.size w wa := by rw [← hwa]; exact (Below.refl _ _).alloc (Nat.le_refl _) _
  have HK0 : Hid (Bk 28 wa w.heap.size (fD d)) := by rw [← hwa]; exact Bk.new w (fD d) 28
  have Hwa := Lib.hid hwa; clear hwa
  have Hba := Lib.hid hba
  have HD := Lib.hid (dplain_any d wa (hA.to hba) hP.2.2.2.2.2.2.1)
  clear hba
  cases hpl : plainD d.p
  · have Hv : Hid (prD d.p = ⟨#[]⟩ ∧ prE d.p = 2) := by
      have : ¬ canD d.p = true := fun h => by rw [canD_plain h] at hpl; cases hpl
      exact ⟨if_neg this, if_neg this⟩
    rw [hpl] at HD
    clear hpl hP hA hT
    have x0 := HK0.out.at 0 _ rfl; have x1 := HK0.out.at 1 _ rfl; have x2 := HK0.out.at 2 _ rfl; have x3 := HK0.out.at 3 _ rfl; have x4 := HK0.out.at 4 _ rfl; have x5 := HK0.out.at 5 _ rfl
    have x6 := HK0.out.at 6 _ rfl; have x7 := HK0.out.at 7 _ rfl; have x8 := HK0.out.at 8 _ rfl; have x9 := HK0.out.at 9 _ rfl; have x10 := HK0.out.at 10 _ rfl; have x11 := HK0.out.at 11 _ rfl
    go_enter Tryz.func9, Tryz.ntmps9
    go_wp2_with fail
    rw [Hwa.out]
    refine HD.out.mono ?_
    rintro en w1 ⟨rfl, hb⟩
    have Hb1 := Lib.hid (bthen Hba.out hb); clear hb x0 x1 x2 x3 x4 x5 x6 x7 x8 x9 x10 x11
    go_wp2_with fail
    go_ret2
    exact ⟨by rw [Hv.out.1, Hv.out.2]; rfl, Hb1.out⟩
  have hop := plainD_op hpl
  have HS := Lib.hid (St.chg hP)
  have Hwr := Lib.hid (chgP_wr d.p hpl)
  rw [hpl] at HD
  have Hop := Lib.hid hop; have HT := Lib.hid hT; have HA := Lib.hid hA; have HP := Lib.hid hP
  clear hpl hP hA hT hop
  have x0 := HK0.out.at 0 _ rfl; have x1 := HK0.out.at 1 _ rfl; have x2 := HK0.out.at 2 _ rfl; have x3 := HK0.out.at 3 _ rfl; have x4 := HK0.out.at 4 _ rfl; have x5 := HK0.out.at 5 _ rfl
  have x6 := HK0.out.at 6 _ rfl; have x7 := HK0.out.at 7 _ rfl; have x8 := HK0.out.at 8 _ rfl; have x9 := HK0.out.at 9 _ rfl; have x10 := HK0.out.at 10 _ rfl; have x11 := HK0.out.at 11 _ rfl
  go_enter Tryz.func9, Tryz.ntmps9
  go_wp2_with fail
  rw [Hwa.out]
  refine HD.out.mono ?_
  rintro en w1 ⟨rfl, hb⟩
  have HK1 := Lib.hid (HK0.out.below hb)
  have Hb1 := Lib.hid (bthen Hba.out hb); clear hb x0 x1 x2 x3 x4 x5 x6 x7 x8 x9 x10 x11
  obtain ⟨B, hB⟩ : ∃ B, w1.heap.size = B := ⟨_, rfl⟩
  obtain ⟨w2, hw2⟩ : ∃ w2, w1.alloc (.cells #[.pointer none, .slice none 0 0, .string ⟨#[]⟩, .bool false] 51) = w2 := ⟨_, rfl⟩
  have hb2 : Below w1.heap.size w1 w2 := by rw [← hw2]; exact (Below.refl _ _).alloc (Nat.le_refl _) _
  have HX2 : Hid (PrX w w2 B ⟨[], [], false⟩) := by
    refine ⟨.pointer none, .slice none 0 0, ⟨by have := Hb1.out.size; omega, Hb1.out.trans (hb2.mono Hb1.out.size), ?_, OwnB.nil _ _⟩, .inl rfl⟩
    rw [← hw2, ← hB]
    exact heap_alloc_new w1 _
  have HK2 := Lib.hid (HK1.out.below hb2)
  have hKb : w.heap.size ≠ B := by have := HK1.out.lt; omega
  have HBe := Lib.hid hB; have Hw2 := Lib.hid hw2; clear hw2 hb2 hB
  go_upto_region 4 with fail
  rw [Hw2.out]
  try rw [HBe.out]
  have y0 := HK2.out.at 0 _ rfl
  have y1 := HK2.out.at 1 _ rfl
  have y2 := HK2.out.at 2 _ rfl
  have y3 := HK2.out.at 3 _ rfl
  have y4 := HK2.out.at 4 _ rfl
  have y5 := HK2.out.at 5 _ rfl
  have y6 := HK2.out.at 6 _ rfl
  have y7 := HK2.out.at 7 _ rfl
  have y8 := HK2.out.at 8 _ rfl
  have y9 := HK2.out.at 9 _ rfl
  have y10 := HK2.out.at 10 _ rfl
  have y11 := HK2.out.at 11 _ rfl
  go_wp2_with fail
  refine (pchange_any w B d _ HX2.out HT.out Hop.out HA.out HP.out).mono ?_
  rintro en w3 ⟨rfl, h3, _⟩
  obtain ⟨c2, c3⟩ := h3.c2
  have H3 := Lib.hid h3
  clear h3 y0 y1 y2 y3 y4 y5 y6 y7 y8 y9 y10 y11 c2
  rw [Hwr.out] at c3
  cases hc : canD d.p
  · have Hv : Hid (prD d.p = ⟨#[]⟩ ∧ prE d.p = 2) := by
      have : ¬ canD d.p = true := fun h => by rw [hc] at h; cases h
      exact ⟨if_neg this, if_neg this⟩
    rw [hc] at c3
    replace c3 : w3.cell? ⟨B, 3, none⟩ = some (.bool true) := c3
    clear hc
    go_wp2_with fail
    go_ret2
    exact ⟨by rw [Hv.out.1, Hv.out.2]; rfl, H3.out.bel⟩
  · have Hv : Hid (prD d.p = strB (dtx [32] d.p []) ∧ prE d.p = 0) := ⟨if_pos hc, if_pos hc⟩
    have he := chgP_ok d.p hc
    have HSt := Lib.hid (pstring_any w B (chgP d.p) w3 H3.out (by rw [he]; exact dtx_ne d.p Hop.out) (by have := HS.out.1; omega))
    rw [he] at HSt
    obtain ⟨t, ht⟩ : ∃ t : ByteArray, ⟨(dtx [32] d.p []).toArray⟩ = t := ⟨_, rfl⟩
    rw [ht] at HSt
    have Ht : Hid (strB (dtx [32] d.p []) = t) := ht
    rw [hc] at c3
    replace c3 : w3.cell? ⟨B, 3, none⟩ = some (.bool false) := c3
    clear hc he ht
    go_wp2_with fail
    refine HSt.out.mono ?_
    rintro en w4 ⟨rfl, hb4⟩
    have Hb4 := Lib.hid hb4; clear hb4 c3
    go_wp2_with fail
    go_ret2
    exact ⟨by rw [Hv.out.1, Hv.out.2, Ht.out]; rfl, Hb4.out⟩
set_option maxRecDepth 100000 in
theorem pcan_any (d : Db) (w : World) (hT : Tbs w) (hA : DdlAt w w.heap.size d) (hP : WfP d.p) :
    Calls Tryz.prog 11 #[DV d] w fun e w' => e = .returned (.bool (canD d.p)) ∧ Below w.heap.size w w' := by
  obtain ⟨wa, hwa⟩ : ∃ wa, w.alloc (.cells #[.int .i64 d.p.op, .string d.p.tb, .string d.p.co, .string d.p.to, .string d.p.key, .int .i64 d.p.tk, .int .i64 d.p.tm, .bool d.p.nl, .int .i64 d.p.dk, .int .i64 d.p.dn, .string d.p.ds, .slice d.A d.p.cols.length d.cap] 28) = wa := ⟨_, rfl⟩
  have hba : Below w.heap.size w wa := by rw [← hwa]; exact (Below.refl _ _).alloc (Nat.le_refl _) _
  have HK0 : Hid (Bk 28 wa w.heap.size (fD d)) := by rw [← hwa]; exact Bk.new w (fD d) 28
  have Hwa := Lib.hid hwa; clear hwa
  have Hba := Lib.hid hba
  have HD := Lib.hid (pprint_any d wa (hT.below hba) (hA.to hba) hP)
  clear hba hT hA hP
  have x0 := HK0.out.at 0 _ rfl; have x1 := HK0.out.at 1 _ rfl; have x2 := HK0.out.at 2 _ rfl; have x3 := HK0.out.at 3 _ rfl; have x4 := HK0.out.at 4 _ rfl; have x5 := HK0.out.at 5 _ rfl
  have x6 := HK0.out.at 6 _ rfl; have x7 := HK0.out.at 7 _ rfl; have x8 := HK0.out.at 8 _ rfl; have x9 := HK0.out.at 9 _ rfl; have x10 := HK0.out.at 10 _ rfl; have x11 := HK0.out.at 11 _ rfl
  obtain ⟨t, ht⟩ : ∃ t, prD d.p = t := ⟨_, rfl⟩
  rw [ht] at HD
  clear ht
  unfold prE at HD
  generalize canD d.p = k at HD ⊢
  cases k
  · replace HD : Hid (Calls Tryz.prog 9 #[DV d] wa fun e w' => e = .returned (.tuple #[.string t, .int .i64 2]) ∧ Below wa.heap.size wa w') := HD.out
    go_enter Tryz.func11, Tryz.ntmps11
    go_wp2_with fail
    try rw [Hwa.out]
    try go_wp2_with fail
    refine HD.out.mono ?_
    rintro en w1 ⟨rfl, hb⟩
    have Hb1 := Lib.hid (bthen Hba.out hb); clear hb x0 x1 x2 x3 x4 x5 x6 x7 x8 x9 x10 x11
    go_wp2_with fail
    go_ret
    exact ⟨rfl, Hb1.out⟩
  · replace HD : Hid (Calls Tryz.prog 9 #[DV d] wa fun e w' => e = .returned (.tuple #[.string t, .int .i64 0]) ∧ Below wa.heap.size wa w') := HD.out
    go_enter Tryz.func11, Tryz.ntmps11
    go_wp2_with fail
    try rw [Hwa.out]
    try go_wp2_with fail
    refine HD.out.mono ?_
    rintro en w1 ⟨rfl, hb⟩
    have Hb1 := Lib.hid (bthen Hba.out hb); clear hb x0 x1 x2 x3 x4 x5 x6 x7 x8 x9 x10 x11
    go_wp2_with fail
    go_ret
    exact ⟨rfl, Hb1.out⟩
end Go.Proofs.YtebldfnocpcddaaGreatDoor
