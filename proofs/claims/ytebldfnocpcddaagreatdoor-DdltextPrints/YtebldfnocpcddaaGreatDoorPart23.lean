/-
  Texts that the proof needs, one behind the other: DtxRP3C, DtxRP4C.
-/
import Derived.Deep.CutBlock
import Derived.Deep.RegionHeld3
import Derived.Deep.DeepCutAuto
import Derived.Test.YtebldfnocpcddaaGreatDoorPart18
import Derived.Test.YtebldfnocpcddaaGreatDoorPart19
import Derived.Test.YtebldfnocpcddaaGreatDoorPart22

/-
  The document's own parser of changes (layer 10): a name, a type, a value.
-/
namespace Go.Proofs.YtebldfnocpcddaaGreatDoor
open Go.RowKit

theorem readT_le {l : List UInt8} {t : Int × Int} {n e : Nat} (h : readT l = (t, n, e)) : n ≤ l.length := by
  by_cases he : e = 0
  · subst he
    obtain ⟨c, hc⟩ : ∃ c, kindL (l.take (rdN l)) = c := ⟨_, rfl⟩
    have hlt : c = 0 ∨ c = 1 ∨ c = 2 ∨ c = 3 ∨ c = 4 := by
      rcases kindL_cases (l.take (rdN l)) with ⟨_, e⟩ | ⟨_, e⟩ | ⟨_, e⟩ | ⟨_, e⟩ | ⟨_, _, _, _, e⟩ <;> omega
    have hr := rdN_le l
    rcases hlt with e | e | e | e | e
    · subst e
      rw [readT_0 hc] at h
      have h5 : (5 : Nat) = 0 := congrArg (fun q : (Int × Int) × Nat × Nat => q.2.2) h
      omega
    · subst e
      rw [readT_1 hc] at h
      have h5 : rdN l = n := congrArg (fun q : (Int × Int) × Nat × Nat => q.2.1) h
      omega
    · subst e
      rw [readT_2 hc] at h
      have h5 : rdN l = n := congrArg (fun q : (Int × Int) × Nat × Nat => q.2.1) h
      omega
    all_goals
      obtain ⟨⟨m, k, e2⟩, hm⟩ : ∃ r, rmaxW (l.drop (rdN l)) = r := ⟨_, rfl⟩
      rw [readT_s hc (by omega) hm] at h
      unfold readT2 at h
      by_cases h0 : e2 = 0
      · subst h0
        rw [if_pos rfl] at h
        have h3 := (rmaxW_ok hm).2.2
        have h4 : rdN l + k = n := congrArg (fun q : (Int × Int) × Nat × Nat => q.2.1) h
        rw [List.length_drop] at h3
        omega
      · rw [if_neg h0] at h
        exact absurd (congrArg (fun q : (Int × Int) × Nat × Nat => q.2.2) h) h0
  · rw [(readT_err h he).2]; exact Nat.zero_le _
theorem readW_le {l : List UInt8} {v : Val} {n e : Nat} (h : readW l = (v, n, e)) : n ≤ l.length := by
  by_cases he : e = 0
  · subst he
    exact (read_back h).2.2.1
  · rw [(readW_err h he).2]; exact Nat.zero_le _
theorem strB_eq {y : ByteArray} {l : List UInt8} (h : bs y = l) : strB l = y := by rw [← h, strB_bs]
theorem ret_strB (y : ByteArray) : Ending.returned (.string y) = .returned ((fun n => Value.string (strB n)) (bs y)) := by
  show _ = Ending.returned (.string (strB (bs y)))
  rw [strB_bs]
set_option maxRecDepth 100000 in
set_option maxHeartbeats 3200000 in
theorem rname_any (b : Nat) (s : ByteArray) (a e : Nat) (w : World) (h : PBx 67 w b s a e) (ha : a ≤ s.size) (hs : s.size ≤ 1000000) :
    Calls Tryz.prog 62 #[.pointer (some ⟨b, 0, none⟩)] w fun en w' => PEnd 67 pName (fun n => .string (strB n)) b s a e w en w' := by
  have hk := nbE_le (e := e) ha
  obtain ⟨y, hy⟩ : ∃ y, bs y = wd ((bs s).drop (nbE s a e)) := ⟨strB _, rfl⟩
  have HB := Lib.hid (rpeek_any b s a e y w h ha hs hy)
  have hle := wd_len hk
  rw [← hy, bs_length] at hle
  by_cases he : e = 0
  · subst he
    have HW := Lib.hid (PTo.name (nbE_sk (e := 0) ha) (bs y))
    have e0 : (((0 : Nat) : Int) != 0) = false := rfl
    clear h
    obtain ⟨k, hk0⟩ : ∃ k, nbE s a 0 = k := ⟨_, rfl⟩
    rw [hk0] at HB hk hy HW hle
    clear hk0
    rw [← hy] at HW
    clear hy
    by_cases hq : bs y = []
    · have HF := Lib.hid (HW.out.1 hq)
      obtain rfl : y = ⟨#[]⟩ := bs_eq hq
      clear hq HW
      go_enter Tryz.func62, Tryz.ntmps62
      go_wp2_with fail
      refine HB.out.mono ?_
      rintro en w1 ⟨rfl, hp, ho⟩
      have HP := Lib.hid hp; have HO := Lib.hid ho; clear hp ho
      obtain ⟨c0, c1, c2⟩ := HP.out.cells
      go_wp2_with fail
      refine (rbad_any b s k 0 5 _ HP.out).mono ?_
      rintro en w2 ⟨rfl, hp, ho⟩
      have HPc := Lib.hid hp; have HOc := Lib.hid (HO.out.trans ho); clear hp ho
      go_wp2_with fail
      go_ret
      exact ⟨bs ⟨#[]⟩, k, 5, ret_strB _, HPc.out, HOc.out, HF.out⟩
    · have t1 := neL (a := y) (l := []) hq
      have t3 : y.toList.isEmpty = false := by
        cases hh : y.toList with
        | nil => rw [ByteArray.toList_eq] at hh; exact absurd hh hq
        | cons _ _ => rfl
      have t4 : ¬ y.toList = [] := by rw [ByteArray.toList_eq]; exact hq
      cases hr : rightN (bs y)
      · have HF := Lib.hid (HW.out.2.1 hq hr)
        have HR := Lib.hid (fun w => nrright_any y w (by omega))
        rw [hr] at HR
        clear hq HW hr
        go_enter Tryz.func62, Tryz.ntmps62
        go_wp2_with fail
        refine HB.out.mono ?_
        rintro en w1 ⟨rfl, hp, ho⟩
        have HP := Lib.hid hp; have HO := Lib.hid ho; clear hp ho
        obtain ⟨c0, c1, c2⟩ := HP.out.cells
        go_wp2_with fail
        refine (HR.out _).mono ?_
        rintro en w2 ⟨rfl, rfl⟩
        go_wp2_with fail
        refine (rbad_any b s k 0 8 _ HP.out).mono ?_
        rintro en w2 ⟨rfl, hp, ho⟩
        have HPc := Lib.hid hp; have HOc := Lib.hid (HO.out.trans ho); clear hp ho
        go_wp2_with fail
        go_ret
        exact ⟨bs y, k, 8, ret_strB _, HPc.out, HOc.out, HF.out⟩
      · have HF := Lib.hid (HW.out.2.2 hr)
        rw [bs_length] at HF
        have HR := Lib.hid (fun w => nrright_any y w (by omega))
        rw [hr] at HR
        have w1 : IntKind.i64.wrap ((k : Int) + (y.size : Int)) = (k : Int) + (y.size : Int) := IntWalk.i64_in _ (by omega)
        clear hq HW hr
        go_enter Tryz.func62, Tryz.ntmps62
        go_wp2_with fail
        refine HB.out.mono ?_
        rintro en w1 ⟨rfl, hp, ho⟩
        have HP := Lib.hid hp; have HO := Lib.hid ho; clear hp ho
        obtain ⟨c0, c1, c2⟩ := HP.out.cells
        have f1 := HP.out.frozen 1
        go_wp2_with fail
        refine (HR.out _).mono ?_
        rintro en w2 ⟨rfl, rfl⟩
        go_wp2_with fail
        go_ret
        exact ⟨bs y, k + y.size, 0, ret_strB _, HP.out.setA _, HO.out.trans (Off.set _ _ _ _), HF.out⟩
  · have e0 : ((e : Int) != 0) = true := by simp; omega
    have HT := Lib.hid (PTo.stay (m := pName) (s := s) ([] : List UInt8) ha he)
    have hk0 : nbE s a e = a := if_neg he
    rw [hk0] at HB
    clear h he hk0 hy hk hle
    go_enter Tryz.func62, Tryz.ntmps62
    go_wp2_with fail
    refine HB.out.mono ?_
    rintro en w1 ⟨rfl, hp, ho⟩
    have HP := Lib.hid hp; have HO := Lib.hid ho; clear hp ho
    obtain ⟨c0, c1, c2⟩ := HP.out.cells
    go_wp2_with fail
    go_ret
    exact ⟨[], a, e, rfl, HP.out, HO.out, HT.out⟩

set_option maxRecDepth 100000 in
set_option maxHeartbeats 3200000 in
theorem rkind_any (b : Nat) (s : ByteArray) (a e : Nat) (w : World) (h : PBx 67 w b s a e) (ha : a ≤ s.size) (hs : s.size ≤ 1000000) :
    Calls Tryz.prog 66 #[.pointer (some ⟨b, 0, none⟩)] w fun en w' => PEnd 67 pKind (fun t => TT t.1 t.2) b s a e w en w' := by
  have hk := nbE_le (e := e) ha
  have hne : b ≠ w.heap.size := by have := h.lt; omega
  obtain ⟨wa, hwa⟩ : ∃ wa, w.alloc (.cells #[.int .i64 0, .int .i64 0] 23) = wa := ⟨_, rfl⟩
  have hba : Below w.heap.size w wa := by rw [← hwa]; exact (Below.refl _ _).alloc (Nat.le_refl _) _
  have Hca : Hid (Bk 23 wa w.heap.size [.int .i64 0, .int .i64 0]) := by rw [← hwa]; exact Bk.new w _ _
  have Hwa := Lib.hid hwa; clear hwa
  have HBa := Lib.hid hba
  have HB := Lib.hid (rblanks_any b s a e wa (h.below hba) ha hs); clear hba
  by_cases he : e = 0
  · subst he
    have e0 : (((0 : Nat) : Int) != 0) = false := rfl
    clear h
    have HW := Lib.hid (nbE_sk (e := 0) ha)
    obtain ⟨k, hk0⟩ : ∃ k, nbE s a 0 = k := ⟨_, rfl⟩
    rw [hk0] at HB hk HW
    clear hk0
    have hx : bs (s.extract k s.size) = (bs s).drop k := by rw [bs_extract, List.take_of_length_le (by rw [bs_length]; omega)]
    obtain ⟨⟨⟨tk, tm⟩, n, e⟩, hr⟩ : ∃ r, readT ((bs s).drop k) = r := ⟨_, rfl⟩
    have HR : Hid (∀ w, Calls Tryz.prog 87 #[.string (s.extract k s.size)] w fun e' w' => e' = .returned (.tuple #[TT tk tm, .int .i64 ((n : Nat) : Int), .int .i64 ((e : Nat) : Int)]) ∧ Below w.heap.size w w') := fun w => by
      have := trread_any (s.extract k s.size) w (by rw [ByteArray.size_extract]; omega)
      rw [hx, hr] at this
      exact this
    have hn : n ≤ s.size - k := by
      have := readT_le hr
      rwa [List.length_drop, bs_length] at this
    have HF := Lib.hid (PTo.kind HW.out hr hn)
    have w1 : IntKind.i64.wrap ((k : Int) + (n : Int)) = (k : Int) + (n : Int) := IntWalk.i64_in _ (by omega)
    clear hx hr HW
    go_enter Tryz.func66, Tryz.ntmps66
    go_wp2_with fail
    rw [Hwa.out]
    refine HB.out.mono ?_
    rintro en w1 ⟨rfl, hp, ho⟩
    have HP := Lib.hid hp; have HO := Lib.hid ho; clear hp ho
    obtain ⟨c0, c1, c2⟩ := HP.out.cells
    have HR0 := Lib.hid (Hca.out.off HO.out (fun h => hne h.symm))
    go_upto_region 4 with fail
    go_cut [3, 4, 5] (fun p q r wx => ∃ j, p = .pointer (some ⟨j, 0, none⟩) ∧ q = .int .i64 ((n : Nat) : Int) ∧ r = .int .i64 ((e : Nat) : Int) ∧ Hid (j ≠ b ∧ Bk 23 wx j [.int .i64 tk, .int .i64 tm] ∧ PBx 67 wx b s k 0 ∧ Off (fun j => j = b) w wx ∧ Bk 23 wx w.heap.size [.int .i64 0, .int .i64 0]))
    case first =>
      have hlt1 := HP.out.lt
      have en1 : w1.heap.size ≠ b := World.new_ne w1 _ c0
      have en2 : b ≠ w1.heap.size := fun e => en1 e.symm
      go_region_held3 (fun w' => w'.cell? ⟨b, 0, none⟩ = some (.string s) ∧ w'.cell? ⟨b, 1, none⟩ = some (.int .i64 (k : Int)))
        (first | exact ⟨c0, c1⟩ | go_keep)
        (first
          | (go_at_call 87; refine (HR.out _).mono ?_; rintro en w2 ⟨rfl, hb⟩; have Hx := Lib.hid hb; have Hb2 : Hid (Below w1.heap.size w1 w2) := bthen (by go_grown) hb; have HP2 := Lib.hid (HP.out.below Hb2.out); have HO2 := Lib.hid ((Off.of_below HBa.out).trans HO.out); obtain ⟨hc5, hf5⟩ := bcell10 hb; clear hb c0 c1 c2; obtain ⟨c0, c1, c2⟩ := HP2.out.cells; have em1 : w2.heap.size ≠ b := World.new_ne w2 _ c0; have em2 : b ≠ w2.heap.size := fun e => em1 e.symm))
      all_goals
        go_wp2_with fail
      · go_meet
        exact ⟨w2.heap.size, rfl, rfl, rfl, fun e => em2 e.symm, Bk.new w2 _ _, HP2.out.below (by go_grown), (HO2.out.then Hb2.out).new _, (HR0.out.below Hb2.out).below (by go_grown)⟩
      · go_meet
        have hl : Bk 23 w2 w1.heap.size [.int .i64 0, .int .i64 0] := Bk.below (Bk.new w1 _ _) (bd Hx.out)
        have hrn : w1.heap.size ≠ w.heap.size := by have := HR0.out.lt; omega
        exact ⟨w1.heap.size, rfl, rfl, rfl, en1, (hl.set 0 _).set 1 _, (HP2.out.put _ _ _ en1).put _ _ _ en1, ((HO2.out.then Hb2.out).put _ _ _ (by have := HR0.out.lt; omega)).put _ _ _ (by have := HR0.out.lt; omega), ((HR0.out.below Hb2.out).put _ _ _ hrn).put _ _ _ hrn⟩
    case rest =>
      obtain ⟨j, rfl, rfl, rfl, hh⟩ := hcut
      obtain ⟨hj, hl, hp, ho, hr⟩ := hh.out
      clear hh c0 c1 c2
      have Hj := Lib.hid hj; have HL := Lib.hid hl; have HPc := Lib.hid hp; have HOc := Lib.hid ho; have HRc := Lib.hid hr
      clear hj hl hp ho hr
      go_wp2_with fail
      refine (rbad_any b s k 0 e _ HPc.out).mono ?_
      rintro en w3 ⟨rfl, hp, ho⟩
      have HP3 := Lib.hid hp; have HO3 := Lib.hid (HOc.out.trans ho); have HL3 := Lib.hid (HL.out.off ho Hj.out); have HR3 := Lib.hid (HRc.out.off ho (fun h => hne h.symm)); clear hp ho
      obtain ⟨c0, c1, c2⟩ := HP3.out.cells
      have f1 := HP3.out.frozen 1
      have l0 := HL3.out.at 0 _ rfl
      have l1 := HL3.out.at 1 _ rfl
      have r0 := HR3.out.at 0 _ rfl
      have r1 := HR3.out.at 1 _ rfl
      have q0 := HR3.out.thaw 0
      have q1 := HR3.out.thaw 1
      have hj1 := Hj.out
      have hj2 : b ≠ j := fun e => hj1 e.symm
      go_wp2_with fail
      refine bodyPost_ret (results_kT rfl _ rfl (((HR3.out.put b 1 (.int .i64 ((k : Int) + (n : Int))) hne).set 0 (.int .i64 tk)).set 1 (.int .i64 tm))) rfl ?_
      refine ⟨(tk, tm), k + n, e, rfl, ?_, ?_, HF.out⟩
      · exact ((HP3.out.setA (k + n)).put _ _ _ (fun h => hne h.symm)).put _ _ _ (fun h => hne h.symm)
      · exact ((HO3.out.in 1 _).put _ _ _ (Nat.le_refl _)).put _ _ _ (Nat.le_refl _)
  · have e0 : ((e : Int) != 0) = true := by simp; omega
    have HT := Lib.hid (PTo.stay (m := pKind) (s := s) ((0, 0) : Int × Int) ha he)
    have hk0 : nbE s a e = a := if_neg he
    rw [hk0] at HB
    clear h he hk0 hk
    go_enter Tryz.func66, Tryz.ntmps66
    go_wp2_with fail
    rw [Hwa.out]
    refine HB.out.mono ?_
    rintro en w1 ⟨rfl, hp, ho⟩
    have HP := Lib.hid hp; have HO := Lib.hid ho; clear hp ho
    obtain ⟨c0, c1, c2⟩ := HP.out.cells
    have HR := Lib.hid (Hca.out.off HO.out (fun h => hne h.symm))
    have r0 := HR.out.at 0 _ rfl
    have r1 := HR.out.at 1 _ rfl
    have q0 := HR.out.thaw 0
    have q1 := HR.out.thaw 1
    go_wp2_with fail
    refine bodyPost_ret (results_kT rfl _ rfl ((HR.out.set 0 (.int .i64 0)).set 1 (.int .i64 0))) rfl ?_
    exact ⟨(0, 0), a, e, rfl, (HP.out.put _ _ _ (fun h => hne h.symm)).put _ _ _ (fun h => hne h.symm), (((Off.of_below HBa.out).trans HO.out).put _ _ _ (Nat.le_refl _)).put _ _ _ (Nat.le_refl _), HT.out⟩
end Go.Proofs.YtebldfnocpcddaaGreatDoor

/-
  The document's own parser of changes (layer 10): a value.
-/
namespace Go.Proofs.YtebldfnocpcddaaGreatDoor
open Go.RowKit

set_option maxRecDepth 100000 in
set_option maxHeartbeats 3200000 in
theorem rvalue_any (null : Bool) (b : Nat) (s : ByteArray) (a e : Nat) (w : World) (h : PBx 67 w b s a e) (ha : a ≤ s.size) (hs : s.size ≤ 1000000) :
    Calls Tryz.prog 67 #[.pointer (some ⟨b, 0, none⟩), .bool null] w fun en w' => PEnd 67 (pVal null) (fun v => VV v.1 v.2.1 (strB v.2.2)) b s a e w en w' := by
  have hk := nbE_le (e := e) ha
  have hne : b ≠ w.heap.size := by have := h.lt; omega
  obtain ⟨wa, hwa⟩ : ∃ wa, w.alloc (.cells #[.int .i64 0, .int .i64 0, .string ⟨#[]⟩] 25) = wa := ⟨_, rfl⟩
  have hba : Below w.heap.size w wa := by rw [← hwa]; exact (Below.refl _ _).alloc (Nat.le_refl _) _
  have Hca : Hid (Bk 25 wa w.heap.size [.int .i64 0, .int .i64 0, .string ⟨#[]⟩]) := by rw [← hwa]; exact Bk.new w _ _
  have Hwa := Lib.hid hwa; clear hwa
  have HBa := Lib.hid hba
  have HB := Lib.hid (rblanks_any b s a e wa (h.below hba) ha hs); clear hba
  by_cases he : e = 0
  · subst he
    have e0 : (((0 : Nat) : Int) != 0) = false := rfl
    clear h
    have HW := Lib.hid (nbE_sk (e := 0) ha)
    obtain ⟨k, hk0⟩ : ∃ k, nbE s a 0 = k := ⟨_, rfl⟩
    rw [hk0] at HB hk HW
    clear hk0
    have hx : bs (s.extract k s.size) = (bs s).drop k := by rw [bs_extract, List.take_of_length_le (by rw [bs_length]; omega)]
    obtain ⟨⟨⟨vk, vn, vt⟩, n, e⟩, hr⟩ : ∃ r, readW ((bs s).drop k) = r := ⟨_, rfl⟩
    have HR : Hid (∀ w, Calls Tryz.prog 88 #[.string (s.extract k s.size)] w fun e' w' => e' = .returned (.tuple #[VV vk vn (strB vt), .int .i64 ((n : Nat) : Int), .int .i64 ((e : Nat) : Int)]) ∧ Below w.heap.size w w') := fun w => by
      have := vrread_any (s.extract k s.size) w (by rw [ByteArray.size_extract]; omega)
      rw [hx, hr] at this
      exact this
    have hn : n ≤ s.size - k := by
      have := readW_le hr
      rwa [List.length_drop, bs_length] at this
    have HF := Lib.hid (PTo.val null HW.out hr hn)
    have w1 : IntKind.i64.wrap ((k : Int) + (n : Int)) = (k : Int) + (n : Int) := IntWalk.i64_in _ (by omega)
    clear hx hr HW
    go_enter Tryz.func67, Tryz.ntmps67
    go_wp2_with fail
    rw [Hwa.out]
    refine HB.out.mono ?_
    rintro en w1 ⟨rfl, hp, ho⟩
    have HP := Lib.hid hp; have HO := Lib.hid ho; clear hp ho
    obtain ⟨c0, c1, c2⟩ := HP.out.cells
    have HR0 := Lib.hid (Hca.out.off HO.out (fun h => hne h.symm))
    go_upto_region 4 with fail
    go_cut [5, 6, 7] (fun p q r wx => ∃ j, p = .pointer (some ⟨j, 0, none⟩) ∧ q = .int .i64 ((n : Nat) : Int) ∧ r = .int .i64 ((e : Nat) : Int) ∧ Hid (j ≠ b ∧ Bk 25 wx j [.int .i64 vk, .int .i64 vn, .string (strB vt)] ∧ PBx 67 wx b s k 0 ∧ Off (fun j => j = b) w wx ∧ Bk 25 wx w.heap.size [.int .i64 0, .int .i64 0, .string ⟨#[]⟩]))
    case first =>
      have hlt1 := HP.out.lt
      have en1 : w1.heap.size ≠ b := World.new_ne w1 _ c0
      have en2 : b ≠ w1.heap.size := fun e => en1 e.symm
      go_region_held3 (fun w' => w'.cell? ⟨b, 0, none⟩ = some (.string s) ∧ w'.cell? ⟨b, 1, none⟩ = some (.int .i64 (k : Int)))
        (first | exact ⟨c0, c1⟩ | go_keep)
        (first
          | (go_at_call 88; refine (HR.out _).mono ?_; rintro en w2 ⟨rfl, hb⟩; have Hx := Lib.hid hb; have Hb2 : Hid (Below w1.heap.size w1 w2) := bthen (by go_grown) hb; have HP2 := Lib.hid (HP.out.below Hb2.out); have HO2 := Lib.hid ((Off.of_below HBa.out).trans HO.out); obtain ⟨hc5, hf5⟩ := bcell10 hb; clear hb c0 c1 c2; obtain ⟨c0, c1, c2⟩ := HP2.out.cells; have em1 : w2.heap.size ≠ b := World.new_ne w2 _ c0; have em2 : b ≠ w2.heap.size := fun e => em1 e.symm))
      all_goals
        go_wp2_with fail
      · go_meet
        exact ⟨w2.heap.size, rfl, rfl, rfl, fun e => em2 e.symm, Bk.new w2 _ _, HP2.out.below (by go_grown), (HO2.out.then Hb2.out).new _, (HR0.out.below Hb2.out).below (by go_grown)⟩
      · go_meet
        have hl : Bk 25 w2 w1.heap.size [.int .i64 0, .int .i64 0, .string ⟨#[]⟩] := Bk.below (Bk.new w1 _ _) (bd Hx.out)
        have hrn : w1.heap.size ≠ w.heap.size := by have := HR0.out.lt; omega
        exact ⟨w1.heap.size, rfl, rfl, rfl, en1, ((hl.set 0 _).set 1 _).set 2 _, ((HP2.out.put _ _ _ en1).put _ _ _ en1).put _ _ _ en1, (((HO2.out.then Hb2.out).put _ _ _ (by have := HR0.out.lt; omega)).put _ _ _ (by have := HR0.out.lt; omega)).put _ _ _ (by have := HR0.out.lt; omega), (((HR0.out.below Hb2.out).put _ _ _ hrn).put _ _ _ hrn).put _ _ _ hrn⟩
    case rest =>
      obtain ⟨j, rfl, rfl, rfl, hh⟩ := hcut
      obtain ⟨hj, hl, hp, ho, hr⟩ := hh.out
      clear hh c0 c1 c2
      have Hj := Lib.hid hj; have HL := Lib.hid hl; have HPc := Lib.hid hp; have HOc := Lib.hid ho; have HRc := Lib.hid hr
      clear hj hl hp ho hr
      have m0 := HL.out.at 0 _ rfl
      have m1 := HL.out.at 1 _ rfl
      have m2 := HL.out.at 2 _ rfl
      by_cases he : e = 0
      · subst he
        have t0 : (((0 : Nat) : Int) == 0) = true := rfl
        have t5 : ((11 : Int) == 0) = false := rfl
        by_cases hv : vk = 0
        · have t1 : (vk == 0) = true := by simp [hv]
          have hF2 := Lib.hid (fun h => HF.out.2.1 rfl hv h)
          have hF3 := Lib.hid (fun h => HF.out.2.2 rfl h)
          clear hv
          cases null
          · have HPb := HPc
            go_wp2_with fail
            refine (rbad_any b s k 0 11 _ HPc.out).mono ?_
            rintro en w3 ⟨rfl, hp, ho⟩
            have HP3 := Lib.hid hp; have HO3 := Lib.hid (HOc.out.trans ho); have HL3 := Lib.hid (HL.out.off ho Hj.out); have HR3 := Lib.hid (HRc.out.off ho (fun h => hne h.symm)); clear hp ho m0 m1 m2
            obtain ⟨c0, c1, c2⟩ := HP3.out.cells
            have f1 := HP3.out.frozen 1
            have l0 := HL3.out.at 0 _ rfl
            have l1 := HL3.out.at 1 _ rfl
            have l2 := HL3.out.at 2 _ rfl
            have r0 := HR3.out.at 0 _ rfl
            have r1 := HR3.out.at 1 _ rfl
            have r2 := HR3.out.at 2 _ rfl
            have q0 := HR3.out.thaw 0
            have q1 := HR3.out.thaw 1
            have q2 := HR3.out.thaw 2
            have hj1 := Hj.out
            have hj2 : b ≠ j := fun e => hj1 e.symm
            go_wp2_with fail
            refine bodyPost_ret (results_kV rfl _ rfl (((HR3.out.set 0 (.int .i64 vk)).set 1 (.int .i64 vn)).set 2 (.string (strB vt)))) rfl ?_
            refine ⟨(vk, vn, vt), k, 11, rfl, ?_, ?_, hF2.out (by first | rfl | trivial)⟩
            · exact ((HP3.out.put _ _ _ (fun h => hne h.symm)).put _ _ _ (fun h => hne h.symm)).put _ _ _ (fun h => hne h.symm)
            · exact ((HO3.out.put _ _ _ (Nat.le_refl _)).put _ _ _ (Nat.le_refl _)).put _ _ _ (Nat.le_refl _)
          · have HPb := HPc
            go_wp2_with fail
            refine (rbad_any b s k 0 0 _ HPc.out).mono ?_
            rintro en w3 ⟨rfl, hp, ho⟩
            have HP3 := Lib.hid hp; have HO3 := Lib.hid (HOc.out.trans ho); have HL3 := Lib.hid (HL.out.off ho Hj.out); have HR3 := Lib.hid (HRc.out.off ho (fun h => hne h.symm)); clear hp ho m0 m1 m2
            obtain ⟨c0, c1, c2⟩ := HP3.out.cells
            have f1 := HP3.out.frozen 1
            have l0 := HL3.out.at 0 _ rfl
            have l1 := HL3.out.at 1 _ rfl
            have l2 := HL3.out.at 2 _ rfl
            have r0 := HR3.out.at 0 _ rfl
            have r1 := HR3.out.at 1 _ rfl
            have r2 := HR3.out.at 2 _ rfl
            have q0 := HR3.out.thaw 0
            have q1 := HR3.out.thaw 1
            have q2 := HR3.out.thaw 2
            have hj1 := Hj.out
            have hj2 : b ≠ j := fun e => hj1 e.symm
            go_wp2_with fail
            refine bodyPost_ret (results_kV rfl _ rfl ((((HR3.out.put b 1 (.int .i64 ((k : Int) + (n : Int))) hne).set 0 (.int .i64 vk)).set 1 (.int .i64 vn)).set 2 (.string (strB vt)))) rfl ?_
            refine ⟨(vk, vn, vt), k + n, 0, rfl, ?_, ?_, hF3.out (fun h => by cases h.2)⟩
            · exact (((HP3.out.setA (k + n)).put _ _ _ (fun h => hne h.symm)).put _ _ _ (fun h => hne h.symm)).put _ _ _ (fun h => hne h.symm)
            · exact (((HO3.out.in 1 _).put _ _ _ (Nat.le_refl _)).put _ _ _ (Nat.le_refl _)).put _ _ _ (Nat.le_refl _)
        · have t1 : (vk == 0) = false := by simp [hv]
          have hF3 := Lib.hid (HF.out.2.2 rfl (fun h => hv h.1))
          clear hv
          have HPb := HPc
          go_wp2_with fail
          refine (rbad_any b s k 0 0 _ HPc.out).mono ?_
          rintro en w3 ⟨rfl, hp, ho⟩
          have HP3 := Lib.hid hp; have HO3 := Lib.hid (HOc.out.trans ho); have HL3 := Lib.hid (HL.out.off ho Hj.out); have HR3 := Lib.hid (HRc.out.off ho (fun h => hne h.symm)); clear hp ho m0 m1 m2
          obtain ⟨c0, c1, c2⟩ := HP3.out.cells
          have f1 := HP3.out.frozen 1
          have l0 := HL3.out.at 0 _ rfl
          have l1 := HL3.out.at 1 _ rfl
          have l2 := HL3.out.at 2 _ rfl
          have r0 := HR3.out.at 0 _ rfl
          have r1 := HR3.out.at 1 _ rfl
          have r2 := HR3.out.at 2 _ rfl
          have q0 := HR3.out.thaw 0
          have q1 := HR3.out.thaw 1
          have q2 := HR3.out.thaw 2
          have hj1 := Hj.out
          have hj2 : b ≠ j := fun e => hj1 e.symm
          go_wp2_with fail
          refine bodyPost_ret (results_kV rfl _ rfl ((((HR3.out.put b 1 (.int .i64 ((k : Int) + (n : Int))) hne).set 0 (.int .i64 vk)).set 1 (.int .i64 vn)).set 2 (.string (strB vt)))) rfl ?_
          refine ⟨(vk, vn, vt), k + n, 0, rfl, ?_, ?_, hF3.out⟩
          · exact (((HP3.out.setA (k + n)).put _ _ _ (fun h => hne h.symm)).put _ _ _ (fun h => hne h.symm)).put _ _ _ (fun h => hne h.symm)
          · exact (((HO3.out.in 1 _).put _ _ _ (Nat.le_refl _)).put _ _ _ (Nat.le_refl _)).put _ _ _ (Nat.le_refl _)
      · have t0 : ((e : Int) == 0) = false := by simp; omega
        have hF1 := Lib.hid (HF.out.1 he)
        clear he
        have HPb := HPc
        go_wp2_with fail
        refine (rbad_any b s k 0 e _ HPc.out).mono ?_
        rintro en w3 ⟨rfl, hp, ho⟩
        have HP3 := Lib.hid hp; have HO3 := Lib.hid (HOc.out.trans ho); have HL3 := Lib.hid (HL.out.off ho Hj.out); have HR3 := Lib.hid (HRc.out.off ho (fun h => hne h.symm)); clear hp ho m0 m1 m2
        obtain ⟨c0, c1, c2⟩ := HP3.out.cells
        have f1 := HP3.out.frozen 1
        have l0 := HL3.out.at 0 _ rfl
        have l1 := HL3.out.at 1 _ rfl
        have l2 := HL3.out.at 2 _ rfl
        have r0 := HR3.out.at 0 _ rfl
        have r1 := HR3.out.at 1 _ rfl
        have r2 := HR3.out.at 2 _ rfl
        have q0 := HR3.out.thaw 0
        have q1 := HR3.out.thaw 1
        have q2 := HR3.out.thaw 2
        have hj1 := Hj.out
        have hj2 : b ≠ j := fun e => hj1 e.symm
        go_wp2_with fail
        refine bodyPost_ret (results_kV rfl _ rfl (((HR3.out.set 0 (.int .i64 vk)).set 1 (.int .i64 vn)).set 2 (.string (strB vt)))) rfl ?_
        refine ⟨(vk, vn, vt), k, e, rfl, ?_, ?_, hF1.out⟩
        · exact ((HP3.out.put _ _ _ (fun h => hne h.symm)).put _ _ _ (fun h => hne h.symm)).put _ _ _ (fun h => hne h.symm)
        · exact ((HO3.out.put _ _ _ (Nat.le_refl _)).put _ _ _ (Nat.le_refl _)).put _ _ _ (Nat.le_refl _)
  · have e0 : ((e : Int) != 0) = true := by simp; omega
    have HT := Lib.hid (PTo.stay (m := pVal null) (s := s) ((0, 0, []) : Val) ha he)
    have hk0 : nbE s a e = a := if_neg he
    rw [hk0] at HB
    clear h he hk0 hk
    go_enter Tryz.func67, Tryz.ntmps67
    go_wp2_with fail
    rw [Hwa.out]
    refine HB.out.mono ?_
    rintro en w1 ⟨rfl, hp, ho⟩
    have HP := Lib.hid hp; have HO := Lib.hid ho; clear hp ho
    obtain ⟨c0, c1, c2⟩ := HP.out.cells
    have HR := Lib.hid (Hca.out.off HO.out (fun h => hne h.symm))
    have r0 := HR.out.at 0 _ rfl
    have r1 := HR.out.at 1 _ rfl
    have r2 := HR.out.at 2 _ rfl
    have q0 := HR.out.thaw 0
    have q1 := HR.out.thaw 1
    have q2 := HR.out.thaw 2
    go_wp2_with fail
    refine bodyPost_ret (results_kV rfl _ rfl (((HR.out.set 0 (.int .i64 0)).set 1 (.int .i64 0)).set 2 (.string ⟨#[]⟩))) rfl ?_
    exact ⟨(0, 0, []), a, e, rfl, ((HP.out.put _ _ _ (fun h => hne h.symm)).put _ _ _ (fun h => hne h.symm)).put _ _ _ (fun h => hne h.symm), ((((Off.of_below HBa.out).trans HO.out).put _ _ _ (Nat.le_refl _)).put _ _ _ (Nat.le_refl _)).put _ _ _ (Nat.le_refl _), HT.out⟩
end Go.Proofs.YtebldfnocpcddaaGreatDoor
