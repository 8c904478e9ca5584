/-
  Contracts of package typ's kindOf, readMax, Read and Parse.
-/
import Derived.Test.YtlfjkbghgfljaaaDoorStrTabs
import Derived.Test.YtlfjkbghgfljaaaDoorTypC
import Derived.Test.YtlfjkbghgfljaaaDoorTypLivesC
import Derived.Test.YtlfjkbghgfljaaaDoorValNumberC
import Derived.Test.YtlfjkbghgfljaaaDoorNameC
import Derived.Test.YtlfjkbghgfljaaaDoorShStr
namespace Go.Proofs.YtlfjkbghgfljaaaDoor
open Go.RowKit

theorem str_beq (a b : ByteArray) : (a.toList == b.toList) = decide (bs a = bs b) := by
  rw [ByteArray.toList_eq, ByteArray.toList_eq]
  show (bs a == bs b) = _
  by_cases h : bs a = bs b
  · simp [h]
  · simp [h]
set_option maxRecDepth 100000 in
set_option maxHeartbeats 1600000 in
theorem kof_any (s : ByteArray) (w : World) (hk : KTab w) : Calls Tryd.prog 37 #[.string s] w fun e w' => e = .returned (.int .i64 (kindL (bs s) : Nat)) ∧ w = w' := by
  have k1 : w.cell? ⟨0, 1, none⟩ = some (.string (kname 1)) := hk 1 (by omega)
  have k2 : w.cell? ⟨0, 2, none⟩ = some (.string (kname 2)) := hk 2 (by omega)
  have k3 : w.cell? ⟨0, 3, none⟩ = some (.string (kname 3)) := hk 3 (by omega)
  have k4 : w.cell? ⟨0, 4, none⟩ = some (.string (kname 4)) := hk 4 (by omega)
  clear hk
  have e1 := str_beq (kname 1) s
  have e2 := str_beq (kname 2) s
  have e3 := str_beq (kname 3) s
  have e4 := str_beq (kname 4) s
  rw [show bs (kname 1) = nmI from rfl] at e1
  rw [show bs (kname 2) = nmL from rfl] at e2
  rw [show bs (kname 3) = nmT from rfl] at e3
  rw [show bs (kname 4) = nmB from rfl] at e4
  generalize kname 1 = n1 at k1 e1
  generalize kname 2 = n2 at k2 e2
  generalize kname 3 = n3 at k3 e3
  generalize kname 4 = n4 at k4 e4
  have hc := kindL_cases (bs s)
  generalize kindL (bs s) = c at hc
  generalize bs s = l at hc e1 e2 e3 e4
  rcases hc with ⟨rfl, rfl⟩ | ⟨rfl, rfl⟩ | ⟨rfl, rfl⟩ | ⟨rfl, rfl⟩ | ⟨h1, h2, h3, h4, rfl⟩
  · have f1 : (n1.toList == s.toList) = true := e1.trans (by decide)
    clear e1 e2 e3 e4
    go_enter Tryd.func37, Tryd.ntmps37
    go_wp2_with fail
    go_rounds 1
    go_ret
    exact ⟨rfl, rfl⟩
  · have f1 : (n1.toList == s.toList) = false := e1.trans (by decide)
    have f2 : (n2.toList == s.toList) = true := e2.trans (by decide)
    clear e1 e2 e3 e4
    go_enter Tryd.func37, Tryd.ntmps37
    go_wp2_with fail
    go_rounds 2
    go_ret
    exact ⟨rfl, rfl⟩
  · have f1 : (n1.toList == s.toList) = false := e1.trans (by decide)
    have f2 : (n2.toList == s.toList) = false := e2.trans (by decide)
    have f3 : (n3.toList == s.toList) = true := e3.trans (by decide)
    clear e1 e2 e3 e4
    go_enter Tryd.func37, Tryd.ntmps37
    go_wp2_with fail
    go_rounds 3
    go_ret
    exact ⟨rfl, rfl⟩
  · have f1 : (n1.toList == s.toList) = false := e1.trans (by decide)
    have f2 : (n2.toList == s.toList) = false := e2.trans (by decide)
    have f3 : (n3.toList == s.toList) = false := e3.trans (by decide)
    have f4 : (n4.toList == s.toList) = true := e4.trans (by decide)
    clear e1 e2 e3 e4
    go_enter Tryd.func37, Tryd.ntmps37
    go_wp2_with fail
    go_rounds 4
    go_ret
    exact ⟨rfl, rfl⟩
  · have f1 : (n1.toList == s.toList) = false := e1.trans (decide_eq_false fun h => h1 h.symm)
    have f2 : (n2.toList == s.toList) = false := e2.trans (decide_eq_false fun h => h2 h.symm)
    have f3 : (n3.toList == s.toList) = false := e3.trans (decide_eq_false fun h => h3 h.symm)
    have f4 : (n4.toList == s.toList) = false := e4.trans (decide_eq_false fun h => h4 h.symm)
    clear e1 e2 e3 e4 h1 h2 h3 h4
    go_enter Tryd.func37, Tryd.ntmps37
    go_wp2_with fail
    go_rounds 5
    go_ret
    exact ⟨rfl, rfl⟩
theorem pre_one (l : List UInt8) (c : UInt8) : [c].isPrefixOf l = decide (l[0]? = some c) := by
  cases l with
  | nil => simp
  | cons a r =>
    by_cases h : c = a
    · subst h; simp
    · have h' : ¬ a = c := fun e => h e.symm
      simp [List.isPrefixOf, h, h']
theorem cutp_yes (s : ByteArray) (w : World) (h : (bs s)[0]? = some 40) : Calls Tryd.prog 49 #[.string s, .string ⟨#[40]⟩] w fun e w' => e = .returned (.tuple #[.string (s.extract 1 s.size), .bool true]) ∧ w = w' := by
  have h1 : Lib.hasPrefix (bs s) [40] = true := by rw [Lib.hasPrefix, pre_one]; exact decide_eq_true h
  have h2 : (⟨(Lib.trimPrefix (bs s) [40]).toArray⟩ : ByteArray) = s.extract 1 s.size := by
    apply bs_eq
    rw [bs_mk, bs_rest]
    unfold Lib.trimPrefix
    rw [if_pos h1]; rfl
  exact (Any.strings_CutPrefix lay_Lays_n103 s ⟨#[40]⟩ w).mono fun e w' ⟨he, hw⟩ => ⟨by
    rw [he]
    show Ending.returned (.tuple #[.string ⟨(Lib.trimPrefix (bs s) [40]).toArray⟩, .bool (Lib.hasPrefix (bs s) [40])]) = _
    rw [h1, h2], hw.symm⟩
theorem cutp_no (s : ByteArray) (w : World) (h : (bs s)[0]? ≠ some 40) : Calls Tryd.prog 49 #[.string s, .string ⟨#[40]⟩] w fun e w' => e = .returned (.tuple #[.string s, .bool false]) ∧ w = w' := by
  have h1 : Lib.hasPrefix (bs s) [40] = false := by rw [Lib.hasPrefix, pre_one]; exact decide_eq_false h
  have h2 : (⟨(Lib.trimPrefix (bs s) [40]).toArray⟩ : ByteArray) = s := by
    apply bs_eq
    rw [bs_mk]
    unfold Lib.trimPrefix
    rw [if_neg (by rw [h1]; simp)]
  exact (Any.strings_CutPrefix lay_Lays_n103 s ⟨#[40]⟩ w).mono fun e w' ⟨he, hw⟩ => ⟨by
    rw [he]
    show Ending.returned (.tuple #[.string ⟨(Lib.trimPrefix (bs s) [40]).toArray⟩, .bool (Lib.hasPrefix (bs s) [40])]) = _
    rw [h1, h2], hw.symm⟩
theorem hasp_any (s : ByteArray) (w : World) : Calls Tryd.prog 51 #[.string s, .string ⟨#[41]⟩] w fun e w' => e = .returned (.bool (decide ((bs s)[0]? = some 41))) ∧ w = w' :=
  (Any.strings_HasPrefix lay_Lays_n99 s ⟨#[41]⟩ w).mono fun e w' ⟨he, hw⟩ => ⟨by
    rw [he]
    show Ending.returned (.bool (([41] : List UInt8).isPrefixOf (bs s))) = _
    rw [pre_one], hw.symm⟩

/-- what readMax returns -/
def rmV (r : Int × Nat × Nat) : Value := .tuple #[.int .i64 r.1, .int .i64 (r.2.1 : Nat), .int .i64 (r.2.2 : Nat)]
set_option maxRecDepth 100000 in
set_option maxHeartbeats 1600000 in
theorem readMax_any (s : ByteArray) (w : World) (hs : s.size ≤ 1000000) : Calls Tryd.prog 38 #[.string s] w fun e w' => e = .returned (rmV (rmaxW (bs s))) ∧ w = w' := by
  by_cases h40 : (bs s)[0]? = some 40
  · have HC := Lib.hid (fun w => cutp_yes s w h40)
    have hpos : 0 < s.size := by rw [← bs_length]; exact (List.getElem?_eq_some_iff.1 h40).1
    have HN := Lib.hid (fun w => number_any (s.extract 1 s.size) w (by simp; omega))
    have hR : (s.extract 1 s.size).size = s.size - 1 := by simp
    have Hbs := Lib.hid (bs_rest s 1)
    obtain ⟨⟨z, k, e⟩, hn⟩ : ∃ r, numW ((bs s).drop 1) = r := ⟨_, rfl⟩
    have hV : numV (bs (s.extract 1 s.size)) = .tuple #[.int .i64 z, .int .i64 (k : Nat), .int .i64 (e : Nat)] := by
      unfold numV
      rw [Hbs.out, hn]
    rw [hV] at HN
    clear hV
    have Hv := Lib.hid (rmaxW_yes h40 hn)
    by_cases he : e = 0
    · subst he
      have hk : k ≤ s.size - 1 := by
        have := (num_back hn).2.2.2
        rw [List.length_drop, bs_length] at this
        exact this
      have HP := Lib.hid (fun w => hasp_any ((s.extract 1 s.size).extract k (s.extract 1 s.size).size) w)
      rw [bs_rest, Hbs.out, List.drop_drop, List.getElem?_drop, Nat.add_zero] at HP
      have HM := Lib.hid (fun w => rmax_any z w)
      rw [rmax2] at Hv
      clear hn h40 Hbs
      generalize s.extract 1 s.size = R at HC HN HP hR
      have i1 : (k : Int) ≤ (R.size : Int) := by omega
      clear hR
      by_cases h41 : (bs s)[1 + k]? = some 41
      · rw [if_pos rfl, if_pos h41] at Hv
        rw [decide_eq_true h41] at HP
        clear h41
        generalize maxK z = b at HM Hv
        cases b
        · go_enter Tryd.func38, Tryd.ntmps38
          go_wp2_with fail
          refine (HC.out _).mono ?_
          rintro e w1 ⟨rfl, rfl⟩
          go_wp2_with fail
          refine (HN.out _).mono ?_
          rintro e w1 ⟨rfl, rfl⟩
          go_wp2_with fail
          refine (HP.out _).mono ?_
          rintro e w1 ⟨rfl, rfl⟩
          go_wp2_with fail
          refine (HM.out _).mono ?_
          rintro e w1 ⟨rfl, rfl⟩
          go_wp2_with fail
          go_returns
          exact ⟨by rw [Hv.out]; rfl, rfl⟩
        · go_enter Tryd.func38, Tryd.ntmps38
          go_wp2_with fail
          refine (HC.out _).mono ?_
          rintro e w1 ⟨rfl, rfl⟩
          go_wp2_with fail
          refine (HN.out _).mono ?_
          rintro e w1 ⟨rfl, rfl⟩
          go_wp2_with fail
          refine (HP.out _).mono ?_
          rintro e w1 ⟨rfl, rfl⟩
          go_wp2_with fail
          refine (HM.out _).mono ?_
          rintro e w1 ⟨rfl, rfl⟩
          go_wp2_with fail
          go_returns
          refine ⟨?_, rfl⟩
          rw [Hv.out]
          show _ = Ending.returned (.tuple #[.int .i64 z, .int .i64 ((k + 2 : Nat) : Int), .int .i64 0])
          rw [show (((k + 2 : Nat) : Int)) = 1 + (k : Int) + 1 by omega]
          rfl
      · rw [if_pos rfl, if_neg h41] at Hv
        rw [decide_eq_false h41] at HP
        clear h41
        go_enter Tryd.func38, Tryd.ntmps38
        go_wp2_with fail
        refine (HC.out _).mono ?_
        rintro e w1 ⟨rfl, rfl⟩
        go_wp2_with fail
        refine (HN.out _).mono ?_
        rintro e w1 ⟨rfl, rfl⟩
        go_wp2_with fail
        refine (HP.out _).mono ?_
        rintro e w1 ⟨rfl, rfl⟩
        go_wp2_with fail
        go_returns
        exact ⟨by rw [Hv.out]; rfl, rfl⟩
    · have d : ((e : Int) != 0) = true := by simp; omega
      rw [rmax2, if_neg he] at Hv
      clear hn h40 Hbs
      generalize s.extract 1 s.size = R at HC HN hR
      clear hR
      go_enter Tryd.func38, Tryd.ntmps38
      go_wp2_with fail
      refine (HC.out _).mono ?_
      rintro e w1 ⟨rfl, rfl⟩
      go_wp2_with fail
      refine (HN.out _).mono ?_
      rintro e w1 ⟨rfl, rfl⟩
      go_wp2_with fail
      go_returns
      exact ⟨by rw [Hv.out]; rfl, rfl⟩
  · have HC := Lib.hid (fun w => cutp_no s w h40)
    have Hv := Lib.hid (rmaxW_no h40)
    clear h40
    go_enter Tryd.func38, Tryd.ntmps38
    go_wp2_with fail
    refine (HC.out _).mono ?_
    rintro e w1 ⟨rfl, rfl⟩
    go_wp2_with fail
    go_returns
    exact ⟨by rw [Hv.out]; rfl, rfl⟩
end Go.Proofs.YtlfjkbghgfljaaaDoor
