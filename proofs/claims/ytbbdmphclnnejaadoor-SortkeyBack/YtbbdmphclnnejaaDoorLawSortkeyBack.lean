/-
  SortkeyBack: for every slice of values, two values and a string the law returns true: what is made of values is read as they are; no key begins with another one. No condition but that the two tables of package utf read as the program's text lays them (tied by the card).
-/
import Derived.Test.YtbbdmphclnnejaaDoorSkLivesC
import Derived.Test.YtbbdmphclnnejaaDoorSkRefOfC
import Derived.Test.YtbbdmphclnnejaaDoorSkRefAllC
import Derived.Test.YtbbdmphclnnejaaDoorTie
import Derived.Test.YtbbdmphclnnejaaDoorCards
import Derived.Deep.CutBlock
import Derived.Deep.DeepCutAuto
import Derived.ProofKit
import Derived.OpenShut
import Derived.ShutString
import Derived.ChangeOld
import Derived.LaidMore
import Derived.SevenTiedAt
namespace Go.Proofs.YtbbdmphclnnejaaDoor.sortkeyBack
open Go.ChangeShapes Go.WideShapes Go.ChangeAt Go.RowKit
open Go.ChangeMaps (open_string shut_string)

/-- two values in their boxes -/
def BxV (w w1 : World) (k n : Int) (s : ByteArray) (k' n' : Int) (s' : ByteArray) : Prop :=
  Blk3 w1 w.heap.size (.int .i64 k) (.int .i64 n) (.string s) ∧ Blk3 w1 (w.heap.size + 1) (.int .i64 k') (.int .i64 n') (.string s') ∧ Below w.heap.size w w1 ∧ w.heap.size + 1 < w1.heap.size
theorem BxV.new (w : World) (k n : Int) (s : ByteArray) (k' n' : Int) (s' : ByteArray) : BxV w ((w.alloc (.cells #[.int .i64 k, .int .i64 n, .string s] 30)).alloc (.cells #[.int .i64 k', .int .i64 n', .string s'] 30)) k n s k' n' s' := by
  refine ⟨(Blk3.new w _ _ _ _).below ((Below.refl _ _).alloc (Nat.le_refl _) _) (by simp), ?_, ((Below.refl _ _).alloc (Nat.le_refl _) _).alloc (by simp) _, by simp⟩
  have := Blk3.new (w.alloc (.cells #[.int .i64 k, .int .i64 n, .string s] 30)) (.int .i64 k') (.int .i64 n') (.string s') 30
  simpa using this
theorem BxV.step {w w1 w2 : World} {k n : Int} {s : ByteArray} {k' n' : Int} {s' : ByteArray} (h : BxV w w1 k n s k' n' s') (hb : Below w1.heap.size w1 w2) : BxV w w2 k n s k' n' s' := by
  obtain ⟨h1, h2, h3, h4⟩ := h
  exact ⟨h1.below hb (by omega), h2.below hb h4, bthen h3 hb, Nat.lt_of_lt_of_le h4 hb.size⟩
theorem BxV.vals {w w1 : World} {k n : Int} {s : ByteArray} {k' n' : Int} {s' : ByteArray} {A : Option Addr} {l : List Vb} (h : BxV w w1 k n s k' n' s') (hA : ValsAt w w.heap.size A l) : ValsAt w1 w1.heap.size A l := hA.to h.2.2.1
theorem BxV.tab {w w1 : World} {k n : Int} {s : ByteArray} {k' n' : Int} {s' : ByteArray} (h : BxV w w1 k n s k' n' s') (ht : UTab w) : UTab w1 := ht.below h.2.2.1 (Nat.le_refl _)
theorem BxV.alloc {w w1 : World} {k n : Int} {s : ByteArray} {k' n' : Int} {s' : ByteArray} (h : BxV w w1 k n s k' n' s') (o : Obj) : BxV w (w1.alloc o) k n s k' n' s' := h.step ((Below.refl _ _).alloc (Nat.le_refl _) o)

/-- what Of returns, as letters -/
theorem of_ex (l : List Vl) : ∃ (S : ByteArray) (E : Int), ofV l = .tuple #[.string S, .int .i64 E] ∧ ((E = 0 ∧ allR l = true ∧ bs S = ofK l) ∨ E = 2) := by
  cases h : allR l
  · exact ⟨⟨#[]⟩, 2, ofV_no h, .inr rfl⟩
  · exact ⟨⟨(ofK l).toArray⟩, 0, ofV_yes h, .inl ⟨rfl, rfl, bs_mk _⟩⟩
/-- the key of one value -/
theorem of_one (k n : Int) (s : ByteArray) (hr : rightV k n (bs s) = true) : ∃ S : ByteArray, ofV (vls [(k, n, s)]) = .tuple #[.string S, .int .i64 0] ∧ bs S = key k n (bs s) := by
  refine ⟨⟨(ofK (vls [(k, n, s)])).toArray⟩, ofV_yes ?_, ?_⟩
  · show (rightL (vl (k, n, s)) && true) = true
    rw [Bool.and_true]; exact hr
  · rw [bs_mk (ofK (vls [(k, n, s)]))]
    show keyL (vl (k, n, s)) ++ [] = _
    rw [List.append_nil]; rfl
theorem read_one (k n : Int) (s S R : ByteArray) (hr : rightV k n (bs s) = true) (h1 : -9223372036854775808 ≤ n) (h2 : n < 9223372036854775808) (hS : bs S = key k n (bs s)) : skV (readK (bs (S ++ R))) = .tuple #[VV k n s, .int .i64 (S.size : Nat), .int .i64 0] := by
  have h := read_key (v := (k, n, bs s)) hr ⟨h1, h2⟩ (bs R)
  have e : keyL (k, n, bs s) = bs S := hS.symm
  rw [e] at h
  rw [bs_append, h]
  unfold skV
  have e2 : (⟨(bs s).toArray⟩ : ByteArray) = s := bs_eq (bs_mk _)
  simp only [e2, bs_length]; rfl
/-- no key begins with another one -/
theorem apart {k n k' n' : Int} {s s' S S' : ByteArray} (hr : rightV k n (bs s) = true) (hr' : rightV k' n' (bs s') = true) (b1 : -9223372036854775808 ≤ n) (b2 : n < 9223372036854775808) (b3 : -9223372036854775808 ≤ n') (b4 : n' < 9223372036854775808)
    (hS : bs S = key k n (bs s)) (hS' : bs S' = key k' n' (bs s')) (hne : ¬ (k = k' ∧ n = n' ∧ s = s')) : ((S'.extract 0 S.size).toList == S.toList) = false := by
  refine cmp_ne fun e => hne ?_
  have h1 : bs S' = bs S ++ (bs S').drop S.size := by
    have h2 := List.take_append_drop S.size (bs S')
    rw [← bs_front, e] at h2
    exact h2.symm
  have h3 : key k n (bs s) ++ (bs S').drop S.size = key k' n' (bs s') ++ [] := by
    rw [List.append_nil, ← hS, ← hS']; exact h1.symm
  obtain ⟨r1, r2, r3⟩ := key_inj hr hr' b1 b2 b3 b4 h3
  exact ⟨r1, r2, bs_eq r3⟩
set_option maxRecDepth 100000 in
set_option maxHeartbeats 1600000 in
theorem g1 (A : Option Addr) (c : Nat) (l : List Vb) (vk vn : Int) (vs : ByteArray) (uk un : Int) (us : ByteArray) (s : ByteArray) (w : World) (HT : Hid (UTab w)) (HA : Hid (ValsAt w w.heap.size A l)) (hl : l.length ≤ maxLen) (hf : few l = false) :
    Calls Tryd.prog 7 #[.slice A l.length c, VV vk vn vs, VV uk un us, .string s] w fun e w' => e = .returned (.bool true) ∧ Below w.heap.size w w' := by
  have HF := Lib.hid (fun w hA => few_any A c l w hA hl)
  rw [hf] at HF
  clear hf
  go_enter Tryd.func7, Tryd.ntmps7
  go_wp2_with fail
  refine (lives7_any _ ((HT.out.alloc _).alloc _)).mono ?_
  rintro e w1 ⟨rfl, hb1⟩
  have HX1 := Lib.hid ((BxV.new w vk vn vs uk un us).step hb1)
  clear hb1
  obtain ⟨⟨c0, c1, c2, _⟩, ⟨e0, e1, e2, _⟩, hbl, _⟩ := HX1.out
  go_wp2_with fail
  refine (HF.out _ (HX1.out.vals HA.out)).mono ?_
  rintro e w2 ⟨rfl, rfl⟩
  go_wp2_with fail
  go_ret
  exact ⟨rfl, hbl⟩
set_option maxRecDepth 100000 in
set_option maxHeartbeats 1600000 in
theorem g2 (A : Option Addr) (c : Nat) (l : List Vb) (vk vn : Int) (vs : ByteArray) (uk un : Int) (us : ByteArray) (s : ByteArray) (w : World) (HT : Hid (UTab w)) (HA : Hid (ValsAt w w.heap.size A l)) (hl : l.length ≤ maxLen) (hf : few l = true) (h1 : 300 < vs.size) :
    Calls Tryd.prog 7 #[.slice A l.length c, VV vk vn vs, VV uk un us, .string s] w fun e w' => e = .returned (.bool true) ∧ Below w.heap.size w w' := by
  have HF := Lib.hid (fun w hA => few_any A c l w hA hl)
  rw [hf] at HF
  clear hf
  have d1 : decide (300 < (vs.size : Int)) = true := by simp; omega
  go_enter Tryd.func7, Tryd.ntmps7
  go_wp2_with fail
  refine (lives7_any _ ((HT.out.alloc _).alloc _)).mono ?_
  rintro e w1 ⟨rfl, hb1⟩
  have HX1 := Lib.hid ((BxV.new w vk vn vs uk un us).step hb1)
  clear hb1
  obtain ⟨⟨c0, c1, c2, _⟩, ⟨e0, e1, e2, _⟩, hbl, _⟩ := HX1.out
  go_wp2_with fail
  refine (HF.out _ (HX1.out.vals HA.out)).mono ?_
  rintro e w2 ⟨rfl, rfl⟩
  go_wp2_with fail
  go_ret
  exact ⟨rfl, hbl⟩
set_option maxRecDepth 100000 in
set_option maxHeartbeats 1600000 in
theorem g3 (A : Option Addr) (c : Nat) (l : List Vb) (vk vn : Int) (vs : ByteArray) (uk un : Int) (us : ByteArray) (s : ByteArray) (w : World) (HT : Hid (UTab w)) (HA : Hid (ValsAt w w.heap.size A l)) (hl : l.length ≤ maxLen) (hf : few l = true) (h1 : ¬ 300 < vs.size) (h2 : 300 < us.size) :
    Calls Tryd.prog 7 #[.slice A l.length c, VV vk vn vs, VV uk un us, .string s] w fun e w' => e = .returned (.bool true) ∧ Below w.heap.size w w' := by
  have HF := Lib.hid (fun w hA => few_any A c l w hA hl)
  rw [hf] at HF
  clear hf
  have d1 : decide (300 < (vs.size : Int)) = false := by simp; omega
  have d2 : decide (300 < (us.size : Int)) = true := by simp; omega
  go_enter Tryd.func7, Tryd.ntmps7
  go_wp2_with fail
  refine (lives7_any _ ((HT.out.alloc _).alloc _)).mono ?_
  rintro e w1 ⟨rfl, hb1⟩
  have HX1 := Lib.hid ((BxV.new w vk vn vs uk un us).step hb1)
  clear hb1
  obtain ⟨⟨c0, c1, c2, _⟩, ⟨e0, e1, e2, _⟩, hbl, _⟩ := HX1.out
  go_wp2_with fail
  refine (HF.out _ (HX1.out.vals HA.out)).mono ?_
  rintro e w2 ⟨rfl, rfl⟩
  go_wp2_with fail
  go_ret
  exact ⟨rfl, hbl⟩
set_option maxRecDepth 100000 in
set_option maxHeartbeats 1600000 in
theorem g4 (A : Option Addr) (c : Nat) (l : List Vb) (vk vn : Int) (vs : ByteArray) (uk un : Int) (us : ByteArray) (s : ByteArray) (w : World) (HT : Hid (UTab w)) (HA : Hid (ValsAt w w.heap.size A l)) (hl : l.length ≤ maxLen) (hf : few l = true) (h1 : ¬ 300 < vs.size) (h2 : ¬ 300 < us.size) (h3 : 300 < s.size) :
    Calls Tryd.prog 7 #[.slice A l.length c, VV vk vn vs, VV uk un us, .string s] w fun e w' => e = .returned (.bool true) ∧ Below w.heap.size w w' := by
  have HF := Lib.hid (fun w hA => few_any A c l w hA hl)
  rw [hf] at HF
  clear hf
  have d1 : decide (300 < (vs.size : Int)) = false := by simp; omega
  have d2 : decide (300 < (us.size : Int)) = false := by simp; omega
  have d3 : decide (300 < (s.size : Int)) = true := by simp; omega
  go_enter Tryd.func7, Tryd.ntmps7
  go_wp2_with fail
  refine (lives7_any _ ((HT.out.alloc _).alloc _)).mono ?_
  rintro e w1 ⟨rfl, hb1⟩
  have HX1 := Lib.hid ((BxV.new w vk vn vs uk un us).step hb1)
  clear hb1
  obtain ⟨⟨c0, c1, c2, _⟩, ⟨e0, e1, e2, _⟩, hbl, _⟩ := HX1.out
  go_wp2_with fail
  refine (HF.out _ (HX1.out.vals HA.out)).mono ?_
  rintro e w2 ⟨rfl, rfl⟩
  go_wp2_with fail
  go_ret
  exact ⟨rfl, hbl⟩

set_option maxRecDepth 100000 in
set_option maxHeartbeats 1600000 in
theorem main (A : Option Addr) (c : Nat) (l : List Vb) (vk vn : Int) (vs : ByteArray) (uk un : Int) (us : ByteArray) (s : ByteArray) (w : World) (HT : Hid (UTab w)) (HA : Hid (ValsAt w w.heap.size A l)) (hl : l.length ≤ maxLen) (hf : few l = true) (h1 : ¬ 300 < vs.size) (h2 : ¬ 300 < us.size) (h3 : ¬ 300 < s.size)
    (hi : ∀ v ∈ vls l, in64 v) (b1 : -9223372036854775808 ≤ vn) (b2 : vn < 9223372036854775808) (b3 : -9223372036854775808 ≤ un) (b4 : un < 9223372036854775808) :
    Calls Tryd.prog 7 #[.slice A l.length c, VV vk vn vs, VV uk un us, .string s] w fun e w' => e = .returned (.bool true) ∧ Below w.heap.size w w' := by
  have d1 : decide (300 < (vs.size : Int)) = false := by simp; omega
  have d2 : decide (300 < (us.size : Int)) = false := by simp; omega
  have d3 : decide (300 < (s.size : Int)) = false := by simp; omega
  have HI := Lib.hid hi; clear hi
  have hl12 := (few_size hf).1
  have HF := Lib.hid (fun w hA => few_any A c l w hA hl)
  rw [hf] at HF
  clear hf
  have HO := Lib.hid (fun w ht hA => sof_any A c l w ht hA (by omega) HI.out)
  obtain ⟨S, E, hof, hE⟩ := of_ex (vls l)
  rw [hof] at HO
  have HE := Lib.hid hE; clear hE hof
  have HRv := Lib.hid (fun w => vrright_any vk vn vs w b1 b2)
  have HRu := Lib.hid (fun w => vrright_any uk un us w b3 b4)
  go_enter Tryd.func7, Tryd.ntmps7
  go_wp2_with fail
  refine (lives7_any _ ((HT.out.alloc _).alloc _)).mono ?_
  rintro e w1 ⟨rfl, hb1⟩
  have HX1 := Lib.hid ((BxV.new w vk vn vs uk un us).step hb1)
  clear hb1
  obtain ⟨⟨c0, c1, c2, _⟩, ⟨e0, e1, e2, _⟩, hbl, _⟩ := HX1.out
  go_wp2_with fail
  refine (HF.out _ (HX1.out.vals HA.out)).mono ?_
  rintro e w2 ⟨rfl, rfl⟩
  go_wp2_with fail
  refine (HO.out _ (HX1.out.tab HT.out) (HX1.out.vals HA.out)).mono ?_
  rintro e w2 ⟨rfl, hb2⟩
  have HX2 := Lib.hid (HX1.out.step hb2)
  clear hb2 c0 c1 c2 e0 e1 e2 HX1 hbl HF HO
  go_upto_if 48 with fail
  go_cut [11, 12] (fun _ _ wx => Hid (BxV w wx vk vn vs uk un us))
  case first =>
    rcases HE.out with ⟨rfl, hr, hS⟩ | rfl
    · have hall : allK (bs S) = (vls l, 0) := by
        rw [hS]
        exact all_of _ fun v hv => ⟨by unfold allR at hr; rw [List.all_eq_true] at hr; exact hr v hv, HI.out v hv⟩
      have hsz : S.size < 1000000 := by
        have h := ofK_len hr
        rw [← hS, bs_length, vls_length] at h
        omega
      have HL := Lib.hid (fun w ht => sall_any S w ht hsz)
      rw [hall] at HL
      clear hall hr hS HE
      go_wp2_with fail
      refine (HL.out _ (HX2.out.tab HT.out)).mono ?_
      rintro e w4 ⟨v4, l2, rfl, ho4, hvs4, hl4, hb4⟩
      have hb4' : Below w2.heap.size w2 w4 := hb4
      obtain rfl : l2 = l := vls_inj hvs4
      have HX4 := Lib.hid (HX2.out.step hb4')
      obtain ⟨A4, c4, rfl, hA4⟩ := ValsAt.of_own ho4
      have HS := Lib.hid (rsame7_eq A4 A c4 c l2 w4 hA4 (HX4.out.vals HA.out) hl4)
      clear hb4 hb4' ho4 hA4
      go_wp2_with fail
      refine HS.out.mono ?_
      rintro e w5 ⟨rfl, hb5⟩
      have HX5 := Lib.hid (HX4.out.step hb5)
      go_wp2_with fail
      go_meet
      exact HX5.out
    · go_wp2_with fail
      go_meet
      exact HX2.out
  case rest =>
    have HX0 : Hid (BxV w wc vk vn vs uk un us) := hcut
    clear HX2 HE HA HI hcut
    obtain ⟨⟨c0, c1, c2, _⟩, ⟨e0, e1, e2, _⟩, _, _⟩ := HX0.out
    cases hrv : rightV vk vn (bs vs)
    · rw [hrv] at HRv
      clear hrv
      go_wp2_with fail
      refine (HRv.out _).mono ?_
      rintro e x1 ⟨rfl, hb1⟩
      have HX1 := Lib.hid (HX0.out.step hb1)
      clear hb1 c0 c1 c2 e0 e1 e2
      obtain ⟨⟨c0, c1, c2, _⟩, ⟨e0, e1, e2, _⟩, hbl, _⟩ := HX1.out
      go_wp2_with fail
      go_ret
      exact ⟨rfl, hbl⟩
    rw [hrv] at HRv
    cases hru : rightV uk un (bs us)
    · rw [hru] at HRu
      clear hrv hru
      go_wp2_with fail
      refine (HRv.out _).mono ?_
      rintro e x1 ⟨rfl, hb1⟩
      have HX1 := Lib.hid (HX0.out.step hb1)
      clear hb1 c0 c1 c2 e0 e1 e2
      obtain ⟨⟨c0, c1, c2, _⟩, ⟨e0, e1, e2, _⟩, hbl, _⟩ := HX1.out
      go_wp2_with fail
      refine (HRu.out _).mono ?_
      rintro e x2 ⟨rfl, hb2⟩
      have HX2 := Lib.hid (HX1.out.step hb2)
      clear hb2 c0 c1 c2 e0 e1 e2 hbl
      obtain ⟨⟨c0, c1, c2, _⟩, ⟨e0, e1, e2, _⟩, hbl, hsz2⟩ := HX2.out
      go_wp2_with fail
      go_ret
      exact ⟨rfl, hbl⟩
    rw [hru] at HRu
    obtain ⟨Sv, hav, hSv⟩ := of_one vk vn vs hrv
    obtain ⟨Su, hau, hSu⟩ := of_one uk un us hru
    have Hav := Lib.hid hav; clear hav
    have Hau := Lib.hid hau; clear hau
    have HIv : Hid (∀ v ∈ vls [(vk, vn, vs)], in64 v) := by intro v hv; simp [vls, vl] at hv; subst hv; exact ⟨b1, b2⟩
    have HIu : Hid (∀ v ∈ vls [(uk, un, us)], in64 v) := by intro v hv; simp [vls, vl] at hv; subst hv; exact ⟨b3, b4⟩
    have hlv : Sv.size ≤ 243 := by rw [← bs_length, hSv]; exact key_len hrv
    have hlu : Su.size ≤ 243 := by rw [← bs_length, hSu]; exact key_len hru
    have HRd := Lib.hid (fun w ht => sread_any (Sv ++ s) w ht (by rw [ByteArray.size_append]; omega))
    rw [read_one vk vn vs Sv s hrv b1 b2 hSv] at HRd
    have hadd := fun w' => run_string_add_sum (P := Tryd.prog) (w := w') Sv s (by omega)
    have Hap := Lib.hid (apart (S := Sv) (S' := Su) hrv hru b1 b2 b3 b4 hSv hSu)
    clear hrv hru hSv hSu
    by_cases q1 : vk = uk
    · subst q1
      by_cases q2 : vn = un
      · subst q2
        by_cases q3 : vs = us
        · subst q3
          clear Hap
          go_wp2_with fail
          refine (HRv.out _).mono ?_
          rintro e x1 ⟨rfl, hb1⟩
          have HX1 := Lib.hid (HX0.out.step hb1)
          clear hb1 c0 c1 c2 e0 e1 e2
          obtain ⟨⟨c0, c1, c2, _⟩, ⟨e0, e1, e2, _⟩, hbl, _⟩ := HX1.out
          go_wp2_with fail
          refine (HRu.out _).mono ?_
          rintro e x2 ⟨rfl, hb2⟩
          have HX2 := Lib.hid (HX1.out.step hb2)
          clear hb2 c0 c1 c2 e0 e1 e2 hbl
          obtain ⟨⟨c0, c1, c2, _⟩, ⟨e0, e1, e2, _⟩, hbl, hsz2⟩ := HX2.out
          go_wp2_with fail
          refine (sof_any (some ⟨x2.heap.size, 0, none⟩) 1 [(vk, vn, vs)] _ ((HX2.out.tab HT.out).alloc _) (ValsAt.one x2 vk vn vs) (by simp) HIv.out).mono ?_
          rintro e x3 ⟨he3, hb3⟩
          rw [Hav.out] at he3
          subst he3
          have HX3 := Lib.hid ((HX2.out.alloc _).step hb3)
          clear hb3 c0 c1 c2 e0 e1 e2 hbl hsz2
          obtain ⟨⟨c0, c1, c2, _⟩, ⟨e0, e1, e2, _⟩, hbl, hsz3⟩ := HX3.out
          go_wp2_with fail
          refine (sof_any (some ⟨x3.heap.size, 0, none⟩) 1 [(vk, vn, vs)] _ ((HX3.out.tab HT.out).alloc _) (ValsAt.one x3 vk vn vs) (by simp) HIu.out).mono ?_
          rintro e x4 ⟨he4, hb4⟩
          rw [Hau.out] at he4
          subst he4
          have HX4 := Lib.hid ((HX3.out.alloc _).step hb4)
          clear hb4 c0 c1 c2 e0 e1 e2 hbl hsz3
          obtain ⟨⟨c0, c1, c2, _⟩, ⟨e0, e1, e2, _⟩, hbl, hsz4⟩ := HX4.out
          go_wp2_with fail
          refine (HRd.out _ (HX4.out.tab HT.out)).mono ?_
          rintro e x5 ⟨rfl, hb5⟩
          have HX5 := Lib.hid (HX4.out.step hb5)
          clear hb5 c0 c1 c2 e0 e1 e2 hbl hsz4
          obtain ⟨⟨c0, c1, c2, _⟩, ⟨e0, e1, e2, _⟩, hbl, hsz5⟩ := HX5.out
          have C0 := fun o => (HX5.out.alloc o).1.1
          have C1 := fun o => (HX5.out.alloc o).1.2.1
          have C2 := fun o => (HX5.out.alloc o).1.2.2.1
          have E0 := fun o => (HX5.out.alloc o).2.1.1
          have E1 := fun o => (HX5.out.alloc o).2.1.2.1
          have E2 := fun o => (HX5.out.alloc o).2.1.2.2.1
          go_wp2_with fail
          go_ret
          exact ⟨rfl, by go_grown⟩
        · have hap := Hap.out (fun e => q3 e.2.2)
          have hap2 : ((Su.extract 0 Sv.size).toList != Sv.toList) = true := by unfold bne; rw [hap]; rfl
          have dq := cmp_ne q3
          clear Hap q3
          by_cases hL : Su.size < Sv.size
          all_goals
            go_wp2_with fail
            refine (HRv.out _).mono ?_
            rintro e x1 ⟨rfl, hb1⟩
            have HX1 := Lib.hid (HX0.out.step hb1)
            clear hb1 c0 c1 c2 e0 e1 e2
            obtain ⟨⟨c0, c1, c2, _⟩, ⟨e0, e1, e2, _⟩, hbl, _⟩ := HX1.out
            go_wp2_with fail
            refine (HRu.out _).mono ?_
            rintro e x2 ⟨rfl, hb2⟩
            have HX2 := Lib.hid (HX1.out.step hb2)
            clear hb2 c0 c1 c2 e0 e1 e2 hbl
            obtain ⟨⟨c0, c1, c2, _⟩, ⟨e0, e1, e2, _⟩, hbl, hsz2⟩ := HX2.out
            go_wp2_with fail
            refine (sof_any (some ⟨x2.heap.size, 0, none⟩) 1 [(vk, vn, vs)] _ ((HX2.out.tab HT.out).alloc _) (ValsAt.one x2 vk vn vs) (by simp) HIv.out).mono ?_
            rintro e x3 ⟨he3, hb3⟩
            rw [Hav.out] at he3
            subst he3
            have HX3 := Lib.hid ((HX2.out.alloc _).step hb3)
            clear hb3 c0 c1 c2 e0 e1 e2 hbl hsz2
            obtain ⟨⟨c0, c1, c2, _⟩, ⟨e0, e1, e2, _⟩, hbl, hsz3⟩ := HX3.out
            go_wp2_with fail
            refine (sof_any (some ⟨x3.heap.size, 0, none⟩) 1 [(vk, vn, us)] _ ((HX3.out.tab HT.out).alloc _) (ValsAt.one x3 vk vn us) (by simp) HIu.out).mono ?_
            rintro e x4 ⟨he4, hb4⟩
            rw [Hau.out] at he4
            subst he4
            have HX4 := Lib.hid ((HX3.out.alloc _).step hb4)
            clear hb4 c0 c1 c2 e0 e1 e2 hbl hsz3
            obtain ⟨⟨c0, c1, c2, _⟩, ⟨e0, e1, e2, _⟩, hbl, hsz4⟩ := HX4.out
            go_wp2_with fail
            refine (HRd.out _ (HX4.out.tab HT.out)).mono ?_
            rintro e x5 ⟨rfl, hb5⟩
            have HX5 := Lib.hid (HX4.out.step hb5)
            clear hb5 c0 c1 c2 e0 e1 e2 hbl hsz4
            obtain ⟨⟨c0, c1, c2, _⟩, ⟨e0, e1, e2, _⟩, hbl, hsz5⟩ := HX5.out
            have C0 := fun o => (HX5.out.alloc o).1.1
            have C1 := fun o => (HX5.out.alloc o).1.2.1
            have C2 := fun o => (HX5.out.alloc o).1.2.2.1
            have E0 := fun o => (HX5.out.alloc o).2.1.1
            have E1 := fun o => (HX5.out.alloc o).2.1.2.1
            have E2 := fun o => (HX5.out.alloc o).2.1.2.2.1
            go_wp2_with fail
            go_ret
            exact ⟨rfl, by go_grown⟩
      · have hap := Hap.out (fun e => q2 e.2.1)
        have hap2 : ((Su.extract 0 Sv.size).toList != Sv.toList) = true := by unfold bne; rw [hap]; rfl
        clear Hap
        by_cases hL : Su.size < Sv.size
        all_goals
          go_wp2_with fail
          refine (HRv.out _).mono ?_
          rintro e x1 ⟨rfl, hb1⟩
          have HX1 := Lib.hid (HX0.out.step hb1)
          clear hb1 c0 c1 c2 e0 e1 e2
          obtain ⟨⟨c0, c1, c2, _⟩, ⟨e0, e1, e2, _⟩, hbl, _⟩ := HX1.out
          go_wp2_with fail
          refine (HRu.out _).mono ?_
          rintro e x2 ⟨rfl, hb2⟩
          have HX2 := Lib.hid (HX1.out.step hb2)
          clear hb2 c0 c1 c2 e0 e1 e2 hbl
          obtain ⟨⟨c0, c1, c2, _⟩, ⟨e0, e1, e2, _⟩, hbl, hsz2⟩ := HX2.out
          go_wp2_with fail
          refine (sof_any (some ⟨x2.heap.size, 0, none⟩) 1 [(vk, vn, vs)] _ ((HX2.out.tab HT.out).alloc _) (ValsAt.one x2 vk vn vs) (by simp) HIv.out).mono ?_
          rintro e x3 ⟨he3, hb3⟩
          rw [Hav.out] at he3
          subst he3
          have HX3 := Lib.hid ((HX2.out.alloc _).step hb3)
          clear hb3 c0 c1 c2 e0 e1 e2 hbl hsz2
          obtain ⟨⟨c0, c1, c2, _⟩, ⟨e0, e1, e2, _⟩, hbl, hsz3⟩ := HX3.out
          go_wp2_with fail
          refine (sof_any (some ⟨x3.heap.size, 0, none⟩) 1 [(vk, un, us)] _ ((HX3.out.tab HT.out).alloc _) (ValsAt.one x3 vk un us) (by simp) HIu.out).mono ?_
          rintro e x4 ⟨he4, hb4⟩
          rw [Hau.out] at he4
          subst he4
          have HX4 := Lib.hid ((HX3.out.alloc _).step hb4)
          clear hb4 c0 c1 c2 e0 e1 e2 hbl hsz3
          obtain ⟨⟨c0, c1, c2, _⟩, ⟨e0, e1, e2, _⟩, hbl, hsz4⟩ := HX4.out
          go_wp2_with fail
          refine (HRd.out _ (HX4.out.tab HT.out)).mono ?_
          rintro e x5 ⟨rfl, hb5⟩
          have HX5 := Lib.hid (HX4.out.step hb5)
          clear hb5 c0 c1 c2 e0 e1 e2 hbl hsz4
          obtain ⟨⟨c0, c1, c2, _⟩, ⟨e0, e1, e2, _⟩, hbl, hsz5⟩ := HX5.out
          have C0 := fun o => (HX5.out.alloc o).1.1
          have C1 := fun o => (HX5.out.alloc o).1.2.1
          have C2 := fun o => (HX5.out.alloc o).1.2.2.1
          have E0 := fun o => (HX5.out.alloc o).2.1.1
          have E1 := fun o => (HX5.out.alloc o).2.1.2.1
          have E2 := fun o => (HX5.out.alloc o).2.1.2.2.1
          go_wp2_with fail
          go_ret
          exact ⟨rfl, by go_grown⟩
    · have hap := Hap.out (fun e => q1 e.1)
      have hap2 : ((Su.extract 0 Sv.size).toList != Sv.toList) = true := by unfold bne; rw [hap]; rfl
      clear Hap
      have dk : (vk == uk) = false := by simpa using q1
      by_cases hL : Su.size < Sv.size
      all_goals
        go_wp2_with fail
        refine (HRv.out _).mono ?_
        rintro e x1 ⟨rfl, hb1⟩
        have HX1 := Lib.hid (HX0.out.step hb1)
        clear hb1 c0 c1 c2 e0 e1 e2
        obtain ⟨⟨c0, c1, c2, _⟩, ⟨e0, e1, e2, _⟩, hbl, _⟩ := HX1.out
        go_wp2_with fail
        refine (HRu.out _).mono ?_
        rintro e x2 ⟨rfl, hb2⟩
        have HX2 := Lib.hid (HX1.out.step hb2)
        clear hb2 c0 c1 c2 e0 e1 e2 hbl
        obtain ⟨⟨c0, c1, c2, _⟩, ⟨e0, e1, e2, _⟩, hbl, hsz2⟩ := HX2.out
        go_wp2_with fail
        refine (sof_any (some ⟨x2.heap.size, 0, none⟩) 1 [(vk, vn, vs)] _ ((HX2.out.tab HT.out).alloc _) (ValsAt.one x2 vk vn vs) (by simp) HIv.out).mono ?_
        rintro e x3 ⟨he3, hb3⟩
        rw [Hav.out] at he3
        subst he3
        have HX3 := Lib.hid ((HX2.out.alloc _).step hb3)
        clear hb3 c0 c1 c2 e0 e1 e2 hbl hsz2
        obtain ⟨⟨c0, c1, c2, _⟩, ⟨e0, e1, e2, _⟩, hbl, hsz3⟩ := HX3.out
        go_wp2_with fail
        refine (sof_any (some ⟨x3.heap.size, 0, none⟩) 1 [(uk, un, us)] _ ((HX3.out.tab HT.out).alloc _) (ValsAt.one x3 uk un us) (by simp) HIu.out).mono ?_
        rintro e x4 ⟨he4, hb4⟩
        rw [Hau.out] at he4
        subst he4
        have HX4 := Lib.hid ((HX3.out.alloc _).step hb4)
        clear hb4 c0 c1 c2 e0 e1 e2 hbl hsz3
        obtain ⟨⟨c0, c1, c2, _⟩, ⟨e0, e1, e2, _⟩, hbl, hsz4⟩ := HX4.out
        go_wp2_with fail
        refine (HRd.out _ (HX4.out.tab HT.out)).mono ?_
        rintro e x5 ⟨rfl, hb5⟩
        have HX5 := Lib.hid (HX4.out.step hb5)
        clear hb5 c0 c1 c2 e0 e1 e2 hbl hsz4
        obtain ⟨⟨c0, c1, c2, _⟩, ⟨e0, e1, e2, _⟩, hbl, hsz5⟩ := HX5.out
        have C0 := fun o => (HX5.out.alloc o).1.1
        have C1 := fun o => (HX5.out.alloc o).1.2.1
        have C2 := fun o => (HX5.out.alloc o).1.2.2.1
        have E0 := fun o => (HX5.out.alloc o).2.1.1
        have E1 := fun o => (HX5.out.alloc o).2.1.2.1
        have E2 := fun o => (HX5.out.alloc o).2.1.2.2.1
        go_wp2_with fail
        go_ret
        exact ⟨rfl, by go_grown⟩

theorem walk (a : Option Addr) (len cap : Nat) (l : List Vb) (vk vn : Int) (vs : ByteArray) (uk un : Int) (us : ByteArray) (s : ByteArray) (w : World) (w0 : ValsIn w a len l) (_ : (Lit.int .i64 vk).wf = true) (hn : (Lit.int .i64 vn).wf = true) (_ : vs.size ≤ maxLen) (_ : (Lit.int .i64 uk).wf = true) (hm : (Lit.int .i64 un).wf = true) (_ : us.size ≤ maxLen) (_ : s.size ≤ maxLen) (hL : laidMetH Tryd.prog Rows.sortkeyBackRow.laid w) :
    Calls Tryd.prog 7 #[.slice a len cap, VV vk vn vs, VV uk un us, .string s] w fun e w' => e = .returned (.bool true) ∧ Below w.heap.size w w' := by
  obtain ⟨rfl, h1, h2, h3⟩ := w0
  have ht := utab_of (by kernel_rfl) (by repeat (first | exact List.Mem.head _ | apply List.Mem.tail)) (by repeat (first | exact List.Mem.head _ | apply List.Mem.tail)) hL
  cases hf : few l
  · exact g1 a cap l vk vn vs uk un us s w ht h2 h1 hf
  by_cases k1 : 300 < vs.size
  · exact g2 a cap l vk vn vs uk un us s w ht h2 h1 hf k1
  by_cases k2 : 300 < us.size
  · exact g3 a cap l vk vn vs uk un us s w ht h2 h1 hf k1 k2
  by_cases k3 : 300 < s.size
  · exact g4 a cap l vk vn vs uk un us s w ht h2 h1 hf k1 k2 k3
  exact main a cap l vk vn vs uk un us s w ht h2 h1 hf k1 k2 k3 (in64_of h3) (wf64 hn).1 (wf64 hn).2 (wf64 hm).1 (wf64 hm).2
theorem own : ownKnob Tryd.prog.godebug = none := by kernel_rfl
theorem laidOut : laidOutB Tryd.prog = true := by kernel_rfl
theorem door_met (os : Os) (args : Array Value) : laidMetH Tryd.prog Rows.sortkeyBackRow.laid ((World.doorLaid Tryd.prog 19 os).forCall (fun _ _ => 0) ⟨#[], args, []⟩).memory :=
  laidMetH_of_parts3 (fuel := 8) (laidMet_of_run' 8 (by kernel_rfl) (by kernel_rfl)) (by kernel_rfl) (by kernel_rfl)
set_option maxRecDepth 100000 in
theorem lifted (os : Os) (started : os.Started) (H : Type) (enc : TypeId × Value → H) :
    ReturnsInHanded {} Tryd.checked os 7 .any (fun w args => (Rows.sortkeyBackSpec.pre enc Tryd.prog Tryd.f7 [] false w args ∧ laidMetH Tryd.prog Rows.sortkeyBackRow.laid w) ∧ sizedMet enc Tryd.prog Tryd.f7 (OpenSpec.ofChange Rows.sortkeyBackSpec) false w args)
      (Rows.sortkeyBackSpec.post enc Tryd.prog Tryd.f7 false true false false) := by
  refine returnsInHanded_of_change_and (C := Tryd.checked) (X := fun w _ => laidMetH Tryd.prog Rows.sortkeyBackRow.laid w) (fun _ _ _ hh h => h.of_heap hh) own started (by kernel_rfl) Tryd.func7
    (ChangeSpec.witness_shaped (enc := enc) (C := Tryd.checked) (os := os) (X := fun w _ => laidMetH Tryd.prog Rows.sortkeyBackRow.laid w) false (World.doorLaid Tryd.prog 19 os) #[.slice none 0 0, .agg #[.int .i64 0, .int .i64 0, .string ByteArray.empty], .agg #[.int .i64 0, .int .i64 0, .string ByteArray.empty], .string ByteArray.empty] 8 rfl (World.shaped_of_RefB (by kernel_rfl) (by kernel_rfl)) (by kernel_rfl) (by kernel_rfl) (by kernel_rfl) (door_met os _)) ?_
  intro W base args ds gs before hval0 hW hcnd _ hL _
  have hval : ∀ (j : Nat) t v, Tryd.f7.params[j]? = some t → args[j]? = some v → Value.okWide Tryd.prog W .any base t v := hval0
  have hW' := hW
  obtain ⟨p, q, hA0, hV, rfl, hfz, hnd⟩ := hW
  have hA : DataW.TrodAll enc Tryd.prog W 0 (fun _ => true) true Tryd.f7.params.toList args.toList ds p := hA0
  rw [Tryd.params7] at hA hval
  obtain ⟨v0, vs0, d0, ds0, p0, q0, hargs, rfl, rfl, h0, r0⟩ := trodAll_cons hA
  obtain ⟨v1, vs1, d1, ds1, p1, q1, rfl, rfl, rfl, h1, r1⟩ := trodAll_cons r0
  obtain ⟨v2, vs2, d2, ds2, p2, q2, rfl, rfl, rfl, h2, r2⟩ := trodAll_cons r1
  obtain ⟨v3, vs3, d3, ds3, p3, q3, rfl, rfl, rfl, h3, r3⟩ := trodAll_cons r2
  obtain ⟨rfl, rfl, rfl⟩ := trodAll_nil r3
  obtain rfl : args = #[v0, v1, v2, v3] := by cases args; simp_all
  obtain ⟨rfl, rfl⟩ := trodVars_none hV
  obtain ⟨a0, len0, cap0, rfl⟩ := okWide_slice Tryd.underlying22 (hval 0 22 v0 rfl rfl)
  have k0 := h0
  have lt0 : ∀ x ∈ p0, x.block < W.heap.size := by obtain ⟨m, hm⟩ := k0; exact DataW.trod_lt m _ _ _ hm
  obtain ⟨z0, w0⟩ := valsIn_of h0
  obtain ⟨a1k, a1n, a1s, rfl, rfl, rfl, w1k, w1n, w1s⟩ := openV (hval 1 30 v1 rfl rfl) h1
  obtain ⟨a2k, a2n, a2s, rfl, rfl, rfl, w2k, w2n, w2s⟩ := openV (hval 2 30 v2 rfl rfl) h2
  obtain ⟨a3, rfl, rfl, rfl, w3⟩ := open_string Tryd.underlying9 (hval 3 9 v3 rfl rfl) h3
  clear hA0 hval0
  refine (walk a0 len0 cap0 z0 a1k a1n a1s a2k a2n a2s a3 W w0 w1k w1n w1s w2k w2n w2s w3 hL).mono fun e W' ⟨he, bel⟩ => ?_
  subst he
  exact ⟨_, rfl, _, _, _, [], _, [], hW', trodAll_mk1 (shut_bool Tryd.underlying4 _), (trodAll_cons_mk (Below.trod laidOut (by kernel_rfl) (of_decide_eq_true (by kernel_rfl)) k0 bel lt0) (trodAll_cons_mk (shutV _ _ w1k w1n w1s) (trodAll_cons_mk (shutV _ _ w2k w2n w2s) (trodAll_cons_mk (shut_string Tryd.underlying9 w3) trodAll_mk0)))), rfl, bel.frame _, fun h => by cases h⟩

theorem over : Rows.SortkeyBackSaid :=
  OpenClaim.holds_of_wide 7 Tryd.f7 rfl rfl rfl rfl rfl rfl rfl ⟨rfl, rfl, rfl, rfl, rfl⟩ rfl rfl rfl rfl rfl (by kernel_rfl) Tryd.func7 (by kernel_rfl)
    (of_decide_eq_true (by kernel_rfl)) (by unfold Func.isWrapper; first | (rw [if_pos (by decide +kernel)]; kernel_rfl) | (rw [if_neg (by decide +kernel)]; exact ⟨rfl, rfl⟩))
    (fun os started H enc _ => lifted os started H enc)

/-- the given statement: the card -/
theorem proved : Rows.SortkeyBackCardSaid :=
  Claim7.holds_tied_plain_at .later [] [.data, .data] true (true, "009bbacac2e6be8747f5013c9a6cf81ed09579dfdc9dddcbc1ee5906f4c6a32b") false
    over (fun _ h => by cases h) (by kernel_rfl) (fun _ h => by cases h) sortkeyBack_row_tie rfl ⟨rfl, rfl⟩ (by kernel_rfl) rfl
    (fun f fn hf hfn => by
      obtain rfl : f = 7 := Option.some.inj ((show Tryd.prog.funcNamed "haulage/haulagelaw07.SortkeyBack" = some 7 by kernel_rfl).symm.trans hf) |>.symm
      obtain rfl : fn = Tryd.f7 := (Option.some.inj (Tryd.func7.symm.trans hfn)).symm
      exact ⟨by kernel_rfl, fun j t ht => by
        rw [Tryd.params7] at ht
        have hm : t ∈ [22, 30, 30, 9] := by simpa using Array.mem_of_getElem? ht
        have hall : ([22, 30, 30, 9].all fun u => !Tryd.prog.wantsStandIn u) = true := by kernel_rfl
        exact (show Tryd.prog.wantsStandIn t = false by simpa using List.all_eq_true.1 hall t hm)⟩)
    (by kernel_rfl)
#print axioms proved
end Go.Proofs.YtbbdmphclnnejaaDoor.sortkeyBack
