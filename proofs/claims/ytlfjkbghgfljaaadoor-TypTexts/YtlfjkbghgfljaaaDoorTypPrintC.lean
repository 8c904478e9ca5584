/-
  Contracts of package typ's Print and of the document's own.
-/
import Derived.Test.YtlfjkbghgfljaaaDoorTypTextC
import Derived.Test.YtlfjkbghgfljaaaDoorValRefDigC
namespace Go.Proofs.YtlfjkbghgfljaaaDoor
open Go.RowKit

theorem box_lt {w w1 : World} {o : Obj} (hb : Below (w.alloc o).heap.size (w.alloc o) w1) : w.heap.size < w1.heap.size := by have := hb.size; simp at this; omega
theorem pr_3 (m : Int) (D : ByteArray) (h : bs D = dz m) : kname 3 ++ ((⟨#[40]⟩ ++ D) ++ ⟨#[41]⟩) = (⟨(prT 3 m).toArray⟩ : ByteArray) := by
  refine bs_eq ?_
  rw [bs_append, bs_append, bs_append, h, bs_mk (prT 3 m)]; rfl
theorem pr_4 (m : Int) (D : ByteArray) (h : bs D = dz m) : kname 4 ++ ((⟨#[40]⟩ ++ D) ++ ⟨#[41]⟩) = (⟨(prT 4 m).toArray⟩ : ByteArray) := by
  refine bs_eq ?_
  rw [bs_append, bs_append, bs_append, h, bs_mk (prT 4 m)]; rfl
theorem pr_r3 (m : Int) (D : ByteArray) (h : bs D = dz m) : (⟨#[116, 101, 120, 116, 40]⟩ ++ D) ++ ⟨#[41]⟩ = (⟨(prT 3 m).toArray⟩ : ByteArray) := by
  refine bs_eq ?_
  rw [bs_append, bs_append, h, bs_mk (prT 3 m)]
  show [116, 101, 120, 116, 40] ++ dz m ++ [41] = nmT ++ (40 :: (dz m ++ [41]))
  simp [nmT]
theorem pr_r4 (m : Int) (D : ByteArray) (h : bs D = dz m) : (⟨#[98, 121, 116, 101, 115, 40]⟩ ++ D) ++ ⟨#[41]⟩ = (⟨(prT 4 m).toArray⟩ : ByteArray) := by
  refine bs_eq ?_
  rw [bs_append, bs_append, h, bs_mk (prT 4 m)]
  show [98, 121, 116, 101, 115, 40] ++ dz m ++ [41] = nmB ++ (40 :: (dz m ++ [41]))
  simp [nmB]
theorem kname_3 : (kname 3).size = 4 := rfl
theorem kname_4 : (kname 4).size = 5 := rfl
set_option maxHeartbeats 800000 in
theorem tprint_no (k m : Int) (w : World) (hr : rightT k m = false) : Calls Tryd.prog 24 #[TT k m] w fun e w' => e = .returned (.tuple #[.string ⟨#[]⟩, .int .i64 2]) ∧ Below w.heap.size w w' := by
  have H1 := Lib.hid (fun w => tright_any k m w)
  rw [hr] at H1
  clear hr
  go_enter Tryd.func24, Tryd.ntmps24
  go_wp2_with fail
  refine (H1.out _).mono ?_
  rintro e w1 ⟨rfl, hb1⟩
  have hb' := below_new hb1
  clear hb1
  go_wp2_with fail
  go_ret2
  exact ⟨rfl, hb'⟩
set_option maxRecDepth 100000 in
set_option maxHeartbeats 1600000 in
theorem tprint_yes (k m : Int) (w : World) (hk : KTab w) (hr : rightT k m = true) : Calls Tryd.prog 24 #[TT k m] w fun e w' => e = .returned (.tuple #[.string ⟨(prT k m).toArray⟩, .int .i64 0]) ∧ Below w.heap.size w w' := by
  have HT := Lib.hid hk; clear hk
  have H1 := Lib.hid (fun w => tright_any k m w)
  rw [hr] at H1
  rw [rightT_iff] at hr
  rcases hr with ⟨rfl | rfl, rfl⟩ | ⟨rfl | rfl, hr⟩
  · have HN := Lib.hid (fun w => isstr_any 1 w)
    rw [show strK 1 = false from rfl] at HN
    go_enter Tryd.func24, Tryd.ntmps24
    go_wp2_with fail
    refine (H1.out _).mono ?_
    rintro e w1 ⟨rfl, hb1⟩
    have HB := Lib.hid ((Blk2.new w _ _ _ _ rfl).below hb1 (by simp))
    have HT1 := Lib.hid ((HT.out.alloc _).below hb1 (Nat.le_refl _))
    have hlt := box_lt hb1
    have hb' := below_new hb1
    clear hb1
    obtain ⟨c0, c1, _⟩ := HB.out
    have kk : w1.cell? ⟨0, 1, none⟩ = some (.string (kname 1)) := HT1.out 1 (by omega)
    go_wp2_with fail
    refine (HN.out _).mono ?_
    rintro e w2 ⟨rfl, rfl⟩
    go_wp2_with fail
    go_ret2
    exact ⟨rfl, hb'⟩
  · have HN := Lib.hid (fun w => isstr_any 2 w)
    rw [show strK 2 = false from rfl] at HN
    go_enter Tryd.func24, Tryd.ntmps24
    go_wp2_with fail
    refine (H1.out _).mono ?_
    rintro e w1 ⟨rfl, hb1⟩
    have HB := Lib.hid ((Blk2.new w _ _ _ _ rfl).below hb1 (by simp))
    have HT1 := Lib.hid ((HT.out.alloc _).below hb1 (Nat.le_refl _))
    have hlt := box_lt hb1
    have hb' := below_new hb1
    clear hb1
    obtain ⟨c0, c1, _⟩ := HB.out
    have kk : w1.cell? ⟨0, 2, none⟩ = some (.string (kname 2)) := HT1.out 2 (by omega)
    go_wp2_with fail
    refine (HN.out _).mono ?_
    rintro e w2 ⟨rfl, rfl⟩
    go_wp2_with fail
    go_ret2
    exact ⟨rfl, hb'⟩
  · have HD := Lib.hid (fun w => digits_any m w (by omega) (by omega))
    have hX : (⟨(dz m).toArray⟩ : ByteArray).size ≤ 20 := by rw [ba_size]; exact dz_len _ (by omega) (by omega)
    have Hp := Lib.hid (pr_3 m ⟨(dz m).toArray⟩ (bs_mk _))
    generalize (⟨(dz m).toArray⟩ : ByteArray) = D at HD Hp hX
    have hs1 : ((⟨#[40]⟩ : ByteArray) ++ D).size = 1 + D.size := by rw [ByteArray.size_append]; rfl
    have hs2 : (((⟨#[40]⟩ : ByteArray) ++ D) ++ ⟨#[41]⟩).size = 1 + D.size + 1 := by rw [ByteArray.size_append, hs1]; rfl
    have hk3 := kname_3
    have hadd1 := fun w' => run_string_add_sum (P := Tryd.prog) (w := w') ⟨#[40]⟩ D (by show 1 + D.size ≤ _; omega)
    have hadd2 := fun w' => run_string_add_sum (P := Tryd.prog) (w := w') (⟨#[40]⟩ ++ D) ⟨#[41]⟩ (by show _ + 1 ≤ _; omega)
    have hadd3 := fun w' => run_string_add_sum (P := Tryd.prog) (w := w') (kname 3) ((⟨#[40]⟩ ++ D) ++ ⟨#[41]⟩) (by rw [hs2, hk3]; omega)
    clear hs1 hs2 hk3 hX hr
    have HN := Lib.hid (fun w => isstr_any 3 w)
    rw [show strK 3 = true from rfl] at HN
    go_enter Tryd.func24, Tryd.ntmps24
    go_wp2_with fail
    refine (H1.out _).mono ?_
    rintro e w1 ⟨rfl, hb1⟩
    have HB := Lib.hid ((Blk2.new w _ _ _ _ rfl).below hb1 (by simp))
    have HT1 := Lib.hid ((HT.out.alloc _).below hb1 (Nat.le_refl _))
    have hlt := box_lt hb1
    have hb' := below_new hb1
    clear hb1
    obtain ⟨c0, c1, _⟩ := HB.out
    have kk : w1.cell? ⟨0, 3, none⟩ = some (.string (kname 3)) := HT1.out 3 (by omega)
    go_wp2_with fail
    refine (HN.out _).mono ?_
    rintro e w2 ⟨rfl, rfl⟩
    go_wp2_with fail
    refine (HD.out _).mono ?_
    rintro e w3 ⟨rfl, hb3⟩
    go_wp2_with fail
    go_ret2
    exact ⟨by rw [← Hp.out]; rfl, hb'.trans (hb3.mono (Nat.le_of_lt hlt))⟩
  · have HD := Lib.hid (fun w => digits_any m w (by omega) (by omega))
    have hX : (⟨(dz m).toArray⟩ : ByteArray).size ≤ 20 := by rw [ba_size]; exact dz_len _ (by omega) (by omega)
    have Hp := Lib.hid (pr_4 m ⟨(dz m).toArray⟩ (bs_mk _))
    generalize (⟨(dz m).toArray⟩ : ByteArray) = D at HD Hp hX
    have hs1 : ((⟨#[40]⟩ : ByteArray) ++ D).size = 1 + D.size := by rw [ByteArray.size_append]; rfl
    have hs2 : (((⟨#[40]⟩ : ByteArray) ++ D) ++ ⟨#[41]⟩).size = 1 + D.size + 1 := by rw [ByteArray.size_append, hs1]; rfl
    have hk3 := kname_4
    have hadd1 := fun w' => run_string_add_sum (P := Tryd.prog) (w := w') ⟨#[40]⟩ D (by show 1 + D.size ≤ _; omega)
    have hadd2 := fun w' => run_string_add_sum (P := Tryd.prog) (w := w') (⟨#[40]⟩ ++ D) ⟨#[41]⟩ (by show _ + 1 ≤ _; omega)
    have hadd3 := fun w' => run_string_add_sum (P := Tryd.prog) (w := w') (kname 4) ((⟨#[40]⟩ ++ D) ++ ⟨#[41]⟩) (by rw [hs2, hk3]; omega)
    clear hs1 hs2 hk3 hX hr
    have HN := Lib.hid (fun w => isstr_any 4 w)
    rw [show strK 4 = true from rfl] at HN
    go_enter Tryd.func24, Tryd.ntmps24
    go_wp2_with fail
    refine (H1.out _).mono ?_
    rintro e w1 ⟨rfl, hb1⟩
    have HB := Lib.hid ((Blk2.new w _ _ _ _ rfl).below hb1 (by simp))
    have HT1 := Lib.hid ((HT.out.alloc _).below hb1 (Nat.le_refl _))
    have hlt := box_lt hb1
    have hb' := below_new hb1
    clear hb1
    obtain ⟨c0, c1, _⟩ := HB.out
    have kk : w1.cell? ⟨0, 4, none⟩ = some (.string (kname 4)) := HT1.out 4 (by omega)
    go_wp2_with fail
    refine (HN.out _).mono ?_
    rintro e w2 ⟨rfl, rfl⟩
    go_wp2_with fail
    refine (HD.out _).mono ?_
    rintro e w3 ⟨rfl, hb3⟩
    go_wp2_with fail
    go_ret2
    exact ⟨by rw [← Hp.out]; rfl, hb'.trans (hb3.mono (Nat.le_of_lt hlt))⟩
set_option maxRecDepth 100000 in
set_option maxHeartbeats 1600000 in
theorem trprint_yes (k m : Int) (w : World) (hr : rightT k m = true) : Calls Tryd.prog 25 #[TT k m] w fun e w' => e = .returned (.string ⟨(prT k m).toArray⟩) ∧ Below w.heap.size w w' := by
  rw [rightT_iff] at hr
  rcases hr with ⟨rfl | rfl, rfl⟩ | ⟨rfl | rfl, hr⟩
  · go_enter Tryd.func25, Tryd.ntmps25
    go_wp2_with fail
    go_ret
    exact ⟨rfl, by go_grown⟩
  · go_enter Tryd.func25, Tryd.ntmps25
    go_wp2_with fail
    go_ret
    exact ⟨rfl, by go_grown⟩
  · have HD := Lib.hid (fun w => rdigits_any m w (by omega) (by omega))
    have hX : (⟨(dz m).toArray⟩ : ByteArray).size ≤ 20 := by rw [ba_size]; exact dz_len _ (by omega) (by omega)
    have Hp := Lib.hid (pr_r3 m ⟨(dz m).toArray⟩ (bs_mk _))
    generalize (⟨(dz m).toArray⟩ : ByteArray) = D at HD Hp hX
    have hs1 : ((⟨#[116, 101, 120, 116, 40]⟩ : ByteArray) ++ D).size = 5 + D.size := by rw [ByteArray.size_append]; rfl
    have hadd1 := fun w' => run_string_add_sum (P := Tryd.prog) (w := w') ⟨#[116, 101, 120, 116, 40]⟩ D (by show 5 + D.size ≤ _; omega)
    have hadd2 := fun w' => run_string_add_sum (P := Tryd.prog) (w := w') (⟨#[116, 101, 120, 116, 40]⟩ ++ D) ⟨#[41]⟩ (by show _ + 1 ≤ _; omega)
    clear hs1 hX hr
    go_enter Tryd.func25, Tryd.ntmps25
    go_wp2_with fail
    refine (HD.out _).mono ?_
    rintro e w3 ⟨rfl, rfl⟩
    go_wp2_with fail
    go_ret
    exact ⟨by rw [← Hp.out]; rfl, by go_grown⟩
  · have HD := Lib.hid (fun w => rdigits_any m w (by omega) (by omega))
    have hX : (⟨(dz m).toArray⟩ : ByteArray).size ≤ 20 := by rw [ba_size]; exact dz_len _ (by omega) (by omega)
    have Hp := Lib.hid (pr_r4 m ⟨(dz m).toArray⟩ (bs_mk _))
    generalize (⟨(dz m).toArray⟩ : ByteArray) = D at HD Hp hX
    have hs1 : ((⟨#[98, 121, 116, 101, 115, 40]⟩ : ByteArray) ++ D).size = 6 + D.size := by rw [ByteArray.size_append]; rfl
    have hadd1 := fun w' => run_string_add_sum (P := Tryd.prog) (w := w') ⟨#[98, 121, 116, 101, 115, 40]⟩ D (by show 6 + D.size ≤ _; omega)
    have hadd2 := fun w' => run_string_add_sum (P := Tryd.prog) (w := w') (⟨#[98, 121, 116, 101, 115, 40]⟩ ++ D) ⟨#[41]⟩ (by show _ + 1 ≤ _; omega)
    clear hs1 hX hr
    go_enter Tryd.func25, Tryd.ntmps25
    go_wp2_with fail
    refine (HD.out _).mono ?_
    rintro e w3 ⟨rfl, rfl⟩
    go_wp2_with fail
    go_ret
    exact ⟨by rw [← Hp.out]; rfl, by go_grown⟩
end Go.Proofs.YtlfjkbghgfljaaaDoor
