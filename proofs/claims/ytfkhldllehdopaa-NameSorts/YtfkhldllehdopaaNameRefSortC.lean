/-
  Contracts of the document's own Same and Sorted.
-/
import Derived.Test.YtfkhldllehdopaaNameSortC
namespace Go.Proofs.Ytfkhldllehdopaa
open Go.RowKit

set_option maxRecDepth 100000 in
set_option maxHeartbeats 800000 in
theorem same4_any (A B : Option Addr) (c d : Nat) (l : List ByteArray) (w : World) (hA : StrsAt w w.heap.size A l) (hB : StrsAt w w.heap.size B l) (hl : l.length ≤ 1000000) :
    Calls Try.prog 15 #[.slice A l.length c, .slice B l.length d] w fun e w' => e = .returned (.bool true) ∧ Below w.heap.size w w' := by
  have HA := Lib.hid hA; clear hA
  have HB := Lib.hid hB; clear hB
  go_enter Try.func15, Try.ntmps15
  go_wp2_with fail
  go_loopw [5] (fun i wr => ∃ k : Nat, k ≤ l.length ∧ i = .int .i64 k ∧ Hid (Drew w wr)) (fun i _ => l.length - (intOf i).toNat)
  case atStart => exact ⟨0, by omega, rfl, Drew.refl _⟩
  case round =>
    obtain ⟨k, hk, rfl, hd⟩ := hrel
    by_cases hlt : k < l.length
    · obtain ⟨b1, o1, rfl, _, hc1⟩ := HA.out (by omega)
      obtain ⟨b2, o2, rfl, _, hc2⟩ := HB.out (by omega)
      have g1 : wr.cell? ⟨b1, o1 + k, none⟩ = some (.string l[k]) := (hd.out.cell _).trans (hc1 k hlt)
      have g2 : wr.cell? ⟨b2, o2 + k, none⟩ = some (.string l[k]) := (hd.out.cell _).trans (hc2 k hlt)
      have i1 : (k : Int) < (l.length : Int) := by omega
      clear hc1 hc2
      generalize l[k] = x at g1 g2
      go_wp2_with fail
      go_quiet (fail)
      go_wp2
      go_roundw
      case rel => exact ⟨k + 1, by omega, by go_num, hd.out.more _⟩
      case measure => simp [intOf]; omega
    · go_wp2
      go_ret
      exact ⟨rfl, hd.out.below _⟩

theorem rorder_drew (a b : ByteArray) (z : Int) (w : World) (ha : a.size ≤ 1000000) (hb : b.size ≤ 1000000) (hz : ordN (bs a) (bs b) = z) : Calls Try.prog 14 #[.string a, .string b] w fun e w' => e = .returned (.int .i64 z) ∧ ∃ m, w' = w.drewN m := by
  have := rorder_any a b w ha hb
  rw [hz] at this
  exact this
theorem beq_iff_B (a b : ByteArray) : (a.toList == b.toList) = true ↔ a = b := by
  rw [beq_iff_eq, ByteArray.toList_eq, ByteArray.toList_eq]
  exact ⟨fun h => bs_eq h, fun h => by rw [h]⟩

set_option maxRecDepth 100000 in
set_option maxHeartbeats 1600000 in
theorem rsorted_any (A : Option Addr) (c : Nat) (zs : List ByteArray) (w : World) (hA : StrsAt w w.heap.size A zs) (hl : zs.length ≤ 1000000) (hz : ∀ z ∈ zs, z.size ≤ 1000000) :
    Calls Try.prog 17 #[.slice A zs.length c] w fun e w' => SortedV zs w e w' := by
  have HA := Lib.hid hA; clear hA
  have HZ := Lib.hid hz; clear hz
  go_enter Try.func17, Try.ntmps17
  go_wp2_with fail
  go_loopw [3, 4] (fun v i wr => ∃ (k : Nat) (out : List ByteArray) (V : Option Addr) (cV : Nat), k ≤ zs.length ∧ i = .int .i64 k ∧ v = .slice V out.length cV ∧ out.length ≤ k ∧ Hid (OwnS wr w.heap.size (.slice V out.length cV) out) ∧ Hid (Srt (zs.take k) out) ∧ Hid (∀ y ∈ out, y.size ≤ 1000000) ∧ Below w.heap.size w wr) (fun _ i _ => zs.length - (intOf i).toNat)
  case atStart => exact ⟨0, [], none, 0, by omega, rfl, rfl, by simp, OwnS.nil _ _, srt_nil, (by show ∀ y ∈ [], _; simp), Below.refl _ _⟩
  case round =>
    obtain ⟨k, out, V, cV, hk, rfl, rfl, hol, ho, hS, hos, hb⟩ := hrel
    by_cases hlt : k < zs.length
    · obtain ⟨b, off, rfl, hbB, hc⟩ := HA.out (by omega)
      have hcx : Hid (wr.cell? ⟨b, off + k, none⟩ = some (.string zs[k])) := (hb.cell (p := ⟨b, off + k, none⟩) hbB).trans (hc k hlt)
      clear hc
      have hxs : zs[k].size ≤ 1000000 := HZ.out _ (List.getElem_mem hlt)
      have Hz : Hid (∀ y, y ∈ zs.take (k + 1) ↔ y ∈ zs.take k ∨ y = zs[k]) := fun y => by
        rw [List.take_succ_eq_append_getElem hlt, List.mem_append, List.mem_singleton]
      generalize zs[k] = x at hcx hxs Hz
      have hsz := hb.size
      have i0 : (k : Int) < (zs.length : Int) := by omega
      have HV : Hid (StrsAt wr wr.heap.size V out) := StrsAt.of_own1 ho.out
      go_wp2_with fail
      go_loopw [5, 6, 7] (fun a t j wr2 => ∃ (m at' : Nat) (th : Bool), m ≤ out.length ∧ at' ≤ m ∧ j = .int .i64 m ∧ a = .int .i64 at' ∧ t = .bool th ∧ Hid (Ins out x m at' th) ∧ Hid (Drew wr wr2)) (fun _ _ j _ => out.length - (intOf j).toNat)
      case atStart => exact ⟨0, 0, false, by omega, by omega, rfl, rfl, rfl, Ins.start _ _, Drew.refl _⟩
      case round =>
        obtain ⟨m, at', th, hm, ham, rfl, rfl, rfl, hI, hd⟩ := hrel
        by_cases hlt2 : m < out.length
        · obtain ⟨g, o, rfl, _, hcV⟩ := HV.out (by omega)
          have gm : wr.cell? ⟨g, o + m, none⟩ = some (.string out[m]) := (hd.out.cell _).trans (hcV m hlt2)
          have gx : wr.cell? ⟨b, off + k, none⟩ = some (.string x) := (hd.out.cell _).trans hcx.out
          have i1 : (m : Int) < (out.length : Int) := by omega
          have hys : out[m].size ≤ 1000000 := hos.out _ (List.getElem_mem hlt2)
          obtain ⟨z, hzz⟩ : ∃ z, ordN (bs out[m]) (bs x) = z := ⟨_, rfl⟩
          have HO := Lib.hid (fun w => rorder_drew out[m] x z w hys hxs hzz)
          have Hl : Hid (ltB out[m] x ↔ z < 0) := by show _ ↔ _; unfold ltB; rw [hzz]
          have He := Lib.hid (beq_iff_B out[m] x)
          have Hless := Lib.hid (fun h => Ins.less hS.out.1 hI.out hlt2 h)
          have Hnot := Lib.hid (fun h bb hbb => Ins.not hI.out hlt2 h bb hbb)
          clear hcV hzz
          generalize out[m] = y at gm hys HO Hl He Hless Hnot
          obtain ⟨q, hq⟩ : ∃ q, (y.toList == x.toList) = q := ⟨_, rfl⟩
          rw [hq] at He
          by_cases hzn : z < 0
          · have d1 : decide (z < 0) = true := by simp; omega
            have Hi := Lib.hid (Hless.out (Hl.out.2 hzn))
            have hqf : q = false := by
              cases q with
              | false => rfl
              | true =>
                have h1 := Hl.out.2 hzn
                rw [He.out.1 rfl] at h1
                exact absurd h1 (ltB_irrefl _)
            subst hqf
            go_wp2_with fail
            go_quiet (first | (go_at_call 14; refine Calls.quiet_of (HO.out _)))
            have hd2 := Lib.hid (hd.out.more nq)
            have gm2 : (wr.drewN nq).cell? ⟨g, o + m, none⟩ = some (.string y) := gm
            have gx2 : (wr.drewN nq).cell? ⟨b, off + k, none⟩ = some (.string x) := gx
            clear gm gx
            generalize wr.drewN nq = wq at hd2 gm2 gx2 ⊢
            cases th
            all_goals
              go_wp2_with fail
              go_quiet (fail)
              go_wp2_with fail
              go_roundw
              case rel => exact ⟨m + 1, m + 1, _, by omega, by omega, by go_num, by go_num, rfl, Hi.out, hd2.out.more _⟩
              case measure => simp [intOf]; omega
          · have d1 : decide (z < 0) = false := by simp; omega
            have Hnl : Hid (¬ ltB y x) := fun h => hzn (Hl.out.1 h)
            go_wp2_with fail
            go_quiet (first | (go_at_call 14; refine Calls.quiet_of (HO.out _)))
            have hd2 := Lib.hid (hd.out.more nq)
            have gm2 : (wr.drewN nq).cell? ⟨g, o + m, none⟩ = some (.string y) := gm
            have gx2 : (wr.drewN nq).cell? ⟨b, off + k, none⟩ = some (.string x) := gx
            clear gm gx
            generalize wr.drewN nq = wq at hd2 gm2 gx2 ⊢
            cases th
            · have Hi := Lib.hid (Hnot.out Hnl.out q (by rw [He.out]; simp))
              go_wp2_with fail
              go_quiet (fail)
              go_wp2_with fail
              go_roundw
              case rel => exact ⟨m + 1, at', q, by omega, by omega, by go_num, rfl, rfl, Hi.out, hd2.out.more _⟩
              case measure => simp [intOf]; omega
            · have Hi := Lib.hid (Hnot.out Hnl.out true (by simp))
              go_wp2_with fail
              go_quiet (fail)
              go_wp2_with fail
              go_roundw
              case rel => exact ⟨m + 1, at', true, by omega, by omega, by go_num, rfl, rfl, Hi.out, hd2.out.more _⟩
              case measure => simp [intOf]; omega
        · have hmo : m = out.length := by omega
          subst hmo
          have ho2 := ho.out.below (hd.out.below _)
          have hb2 := hb.trans (hd.out.below _)
          have hsz2 := hb2.size
          have gx : wr.cell? ⟨b, off + k, none⟩ = some (.string x) := (hd.out.cell _).trans hcx.out
          cases th
          · have Hn := Lib.hid (Ins.put rfl hI.out hS.out _ Hz.out)
            obtain ⟨L, HL⟩ : ∃ L, Hid (L = out.take at' ++ [x] ++ out.drop at') := ⟨_, rfl⟩
            rw [← HL.out] at Hn
            have hLl : L.length ≤ k + 1 := by
              rw [HL.out]
              simp only [List.length_append, List.length_take, List.length_drop, List.length_singleton]
              omega
            have HLs : Hid (∀ y ∈ L, y.size ≤ 1000000) := fun y hy => by
              rw [HL.out] at hy
              simp only [List.mem_append, List.mem_singleton] at hy
              rcases hy with (hy | hy) | hy
              · exact hos.out y (List.mem_of_mem_take hy)
              · rw [hy]; exact hxs
              · exact hos.out y (List.mem_of_mem_drop hy)
            have Ho2 := Lib.hid ho2; clear ho2
            have Hb2 := Lib.hid hb2; clear hb2
            rcases Ho2.out.form with ⟨hV, hnil⟩ | ⟨g, cap, hV, hg1, hg2, hcap, hcells⟩
            · subst hnil
              cases hV
              obtain rfl : at' = 0 := by simp at ham; exact ham
              rw [show ([] : List ByteArray).take 0 ++ [x] ++ ([] : List ByteArray).drop 0 = [] ++ [x] ++ [] from rfl] at HL
              have hnil : ∀ A, Hid (StrsAt wr wr.heap.size A []) := fun A h => absurd h (by simp)
              have hbs : b < wr.heap.size := by omega
              go_wp2_with fail
              go_region_law (first
                | (refine step_append_strs rfl (.tmp 46) (.tmp 49) rfl wr.heap.size (.slice (some ⟨wr.heap.size, 0, none⟩) 0 0) [] none 0 0 [] (own0_a wr) ?_ ?_ ?_ ?_ ?_ ?_ ?_ ?_
                   · simp [Act.eval]
                   · simp [Act.eval]
                   · simp <;> omega
                   · intro h; first | rfl | cases h
                   · exact ((hnil _).out).to (((Below.refl wr.heap.size wr).alloc (Nat.le_refl _) (.cells #[] 9)).drew)
                   · simp <;> omega
                   · first | (simp; done) | (simp; omega)
                   intro v1 w1 ho1 hg1
                   have hB1 := below_grown (((Below.refl wr.heap.size wr).alloc (Nat.le_refl _) (.cells #[] 9)).drew) (own0_a wr) hg1 (Nat.le_refl _) (by first | (simp; done) | (simp; omega))
                   have gx1 : w1.cell? ⟨b, off + k, none⟩ = some (.string x) := (hB1.cell (p := ⟨b, off + k, none⟩) hbs).trans gx)
                | (refine step_append_strs rfl (.tmp 46) (.tmp 49) rfl wr.heap.size (.slice (some ⟨wr.heap.size, 0, none⟩) 0 0) [] none 0 0 [] (own0_d wr (.cells #[.string x] 9)) ?_ ?_ ?_ ?_ ?_ ?_ ?_ ?_
                   · simp [Act.eval]
                   · simp [Act.eval]
                   · simp <;> omega
                   · intro h; first | rfl | cases h
                   · exact ((hnil _).out).to ((((Below.refl wr.heap.size wr).alloc (Nat.le_refl _) (.cells #[] 9)).alloc (by simp) (.cells #[.string x] 9)).drew)
                   · simp <;> omega
                   · first | (simp; done) | (simp; omega)
                   intro v1 w1 ho1 hg1
                   have hB1 := below_grown ((((Below.refl wr.heap.size wr).alloc (Nat.le_refl _) (.cells #[] 9)).alloc (by simp) (.cells #[.string x] 9)).drew) (own0_d wr (.cells #[.string x] 9)) hg1 (Nat.le_refl _) (by first | (simp; done) | (simp; omega))
                   have gx1 : w1.cell? ⟨b, off + k, none⟩ = some (.string x) := (hB1.cell (p := ⟨b, off + k, none⟩) hbs).trans gx
                   have gl : w1.cell? ⟨wr.heap.size + 1, 0, none⟩ = some (.string x) := (cell_grownBy hg1 ⟨wr.heap.size + 1, 0, none⟩ (by first | (simp; done) | (simp; omega)) (by simp [Value.ownBlock])).trans (by simp))
                | (refine step_append_strs rfl (.tmp 46) (.tmp 49) rfl wr.heap.size (.slice (some ⟨wr.heap.size + 1, 0, none⟩) 0 0) [] none 0 0 [] (own0_f wr (.cells #[.string x] 9)) ?_ ?_ ?_ ?_ ?_ ?_ ?_ ?_
                   · simp [Act.eval]
                   · simp [Act.eval]
                   · simp <;> omega
                   · intro h; first | rfl | cases h
                   · exact ((hnil _).out).to ((((Below.refl wr.heap.size wr).alloc (Nat.le_refl _) (.cells #[.string x] 9)).alloc (by simp) (.cells #[] 9)).drew)
                   · simp <;> omega
                   · first | (simp; done) | (simp; omega)
                   intro v1 w1 ho1 hg1
                   have hB1 := below_grown ((((Below.refl wr.heap.size wr).alloc (Nat.le_refl _) (.cells #[.string x] 9)).alloc (by simp) (.cells #[] 9)).drew) (own0_f wr (.cells #[.string x] 9)) hg1 (Nat.le_refl _) (by first | (simp; done) | (simp; omega))
                   have gx1 : w1.cell? ⟨b, off + k, none⟩ = some (.string x) := (hB1.cell (p := ⟨b, off + k, none⟩) hbs).trans gx
                   have gl : w1.cell? ⟨wr.heap.size, 0, none⟩ = some (.string x) := (cell_grownBy hg1 ⟨wr.heap.size, 0, none⟩ (by first | (simp; done) | (simp; omega)) (by simp [Value.ownBlock])).trans (by simp))
                | (refine step_append_strs rfl (.tmp 50) (.tmp 55) rfl wr.heap.size v1 [] (some ⟨w1.heap.size, 0, none⟩) 1 1 [x] (ho1.alloc (.cells #[.string x] 9)) ?_ ?_ ?_ ?_ ?_ ?_ ?_ ?_
                   · simp [Act.eval]
                   · simp [Act.eval]
                   · rfl
                   · intro h; cases h
                   · exact strs_one (by simp)
                   · simp <;> omega
                   · have := hB1.size; simp <;> omega
                   intro v2 w2 ho2 hg2
                   have hB2 := below_grown (hB1.alloc hB1.size (.cells #[.string x] 9)) (ho1.alloc (.cells #[.string x] 9)) hg2 (Nat.le_refl _) (by have := hB1.size; simp <;> omega))
                | (refine step_append_strs rfl (.tmp 50) (.tmp 55) rfl wr.heap.size v1 [] (some ⟨wr.heap.size + 1, 0, none⟩) 1 1 [x] (ho1) ?_ ?_ ?_ ?_ ?_ ?_ ?_ ?_
                   · simp [Act.eval]
                   · simp [Act.eval]
                   · rfl
                   · intro h; cases h
                   · exact strs_one gl
                   · simp <;> omega
                   · have := hB1.size; simp <;> omega
                   intro v2 w2 ho2 hg2
                   have hB2 := below_grown hB1 (ho1) hg2 (Nat.le_refl _) (by have := hB1.size; simp <;> omega))
                | (refine step_append_strs rfl (.tmp 50) (.tmp 55) rfl wr.heap.size v1 [] (some ⟨wr.heap.size, 0, none⟩) 1 1 [x] (ho1) ?_ ?_ ?_ ?_ ?_ ?_ ?_ ?_
                   · simp [Act.eval]
                   · simp [Act.eval]
                   · rfl
                   · intro h; cases h
                   · exact strs_one gl
                   · simp <;> omega
                   · have := hB1.size; simp <;> omega
                   intro v2 w2 ho2 hg2
                   have hB2 := below_grown hB1 (ho1) hg2 (Nat.le_refl _) (by have := hB1.size; simp <;> omega))
                | (refine step_append_strs rfl (.tmp 56) (.tmp 59) rfl wr.heap.size v2 ([] ++ [x]) none 0 0 [] ho2 ?_ ?_ ?_ ?_ ?_ ?_ ?_ ?_
                   · simp [Act.eval]
                   · simp [Act.eval]
                   · simp <;> omega
                   · intro h; first | rfl | cases h
                   · exact ((hnil _).out).to hB2
                   · simp <;> omega
                   · exact hB2.size
                   intro v3 w3 ho3 hg3
                   have hB3 := below_grown hB2 ho2 hg3 (Nat.le_refl _) hB2.size)
                | fail)
              all_goals
                rw [← HL.out] at ho3
                have Ho3 := Lib.hid ho3; clear ho3
                obtain ⟨A3, c3, hv3, _⟩ := StrsAt.of_own Ho3.out
                subst hv3
                clear gx gx1 hg1 hg2 hg3 ho1 ho2
                go_wp2_with fail
                go_roundw
                case rel => exact ⟨k + 1, L, A3, c3, by omega, by go_num, rfl, hLl, Ho3.out.mono hsz2, Hn.out, HLs.out, Hb2.out.trans (hB3.mono hsz2)⟩
                case measure => simp [intOf]; omega
            · cases hV
              have HV2 : Hid (StrsAt wr wr.heap.size (some ⟨g, 0, none⟩) out) := StrsAt.of_own1 Ho2.out
              clear hcells
              have i2 : (at' : Int) ≤ (cV : Int) := by omega
              have i3 : (at' : Int) ≤ (out.length : Int) := by omega
              have hbs : b < wr.heap.size := by omega
              have HD : Hid (StrsAt wr wr.heap.size (some ⟨g, at', none⟩) (out.drop at')) := by
                have := HV2.out.drop at'
                rw [Nat.zero_add] at this
                exact this
              by_cases hat : at' < out.length
              · have i4 : ¬ cV = at' := by omega
                go_wp2_with fail
                go_region_law (first
                  | (refine step_append_strs rfl (.tmp 46) (.tmp 49) rfl wr.heap.size (.slice (some ⟨wr.heap.size, 0, none⟩) 0 0) [] (some ⟨g, 0, none⟩) at' cV (out.take at') (own0_a wr) ?_ ?_ ?_ ?_ ?_ ?_ ?_ ?_
                     · simp [Act.eval]
                     · simp [Act.eval]
                     · simp <;> omega
                     · intro h; first | rfl | cases h
                     · exact (HV2.out.take at').to (((Below.refl wr.heap.size wr).alloc (Nat.le_refl _) (.cells #[] 9)).drew)
                     · simp <;> omega
                     · first | (simp; done) | (simp; omega)
                     intro v1 w1 ho1 hg1
                     have hB1 := below_grown (((Below.refl wr.heap.size wr).alloc (Nat.le_refl _) (.cells #[] 9)).drew) (own0_a wr) hg1 (Nat.le_refl _) (by first | (simp; done) | (simp; omega))
                     have gx1 : w1.cell? ⟨b, off + k, none⟩ = some (.string x) := (hB1.cell (p := ⟨b, off + k, none⟩) hbs).trans gx)
                  | (refine step_append_strs rfl (.tmp 46) (.tmp 49) rfl wr.heap.size (.slice (some ⟨wr.heap.size, 0, none⟩) 0 0) [] (some ⟨g, 0, none⟩) at' cV (out.take at') (own0_d wr (.cells #[.string x] 9)) ?_ ?_ ?_ ?_ ?_ ?_ ?_ ?_
                     · simp [Act.eval]
                     · simp [Act.eval]
                     · simp <;> omega
                     · intro h; first | rfl | cases h
                     · exact (HV2.out.take at').to ((((Below.refl wr.heap.size wr).alloc (Nat.le_refl _) (.cells #[] 9)).alloc (by simp) (.cells #[.string x] 9)).drew)
                     · simp <;> omega
                     · first | (simp; done) | (simp; omega)
                     intro v1 w1 ho1 hg1
                     have hB1 := below_grown ((((Below.refl wr.heap.size wr).alloc (Nat.le_refl _) (.cells #[] 9)).alloc (by simp) (.cells #[.string x] 9)).drew) (own0_d wr (.cells #[.string x] 9)) hg1 (Nat.le_refl _) (by first | (simp; done) | (simp; omega))
                     have gx1 : w1.cell? ⟨b, off + k, none⟩ = some (.string x) := (hB1.cell (p := ⟨b, off + k, none⟩) hbs).trans gx
                     have gl : w1.cell? ⟨wr.heap.size + 1, 0, none⟩ = some (.string x) := (cell_grownBy hg1 ⟨wr.heap.size + 1, 0, none⟩ (by first | (simp; done) | (simp; omega)) (by simp [Value.ownBlock])).trans (by simp))
                  | (refine step_append_strs rfl (.tmp 46) (.tmp 49) rfl wr.heap.size (.slice (some ⟨wr.heap.size + 1, 0, none⟩) 0 0) [] (some ⟨g, 0, none⟩) at' cV (out.take at') (own0_f wr (.cells #[.string x] 9)) ?_ ?_ ?_ ?_ ?_ ?_ ?_ ?_
                     · simp [Act.eval]
                     · simp [Act.eval]
                     · simp <;> omega
                     · intro h; first | rfl | cases h
                     · exact (HV2.out.take at').to ((((Below.refl wr.heap.size wr).alloc (Nat.le_refl _) (.cells #[.string x] 9)).alloc (by simp) (.cells #[] 9)).drew)
                     · simp <;> omega
                     · first | (simp; done) | (simp; omega)
                     intro v1 w1 ho1 hg1
                     have hB1 := below_grown ((((Below.refl wr.heap.size wr).alloc (Nat.le_refl _) (.cells #[.string x] 9)).alloc (by simp) (.cells #[] 9)).drew) (own0_f wr (.cells #[.string x] 9)) hg1 (Nat.le_refl _) (by first | (simp; done) | (simp; omega))
                     have gx1 : w1.cell? ⟨b, off + k, none⟩ = some (.string x) := (hB1.cell (p := ⟨b, off + k, none⟩) hbs).trans gx
                     have gl : w1.cell? ⟨wr.heap.size, 0, none⟩ = some (.string x) := (cell_grownBy hg1 ⟨wr.heap.size, 0, none⟩ (by first | (simp; done) | (simp; omega)) (by simp [Value.ownBlock])).trans (by simp))
                  | (refine step_append_strs rfl (.tmp 50) (.tmp 55) rfl wr.heap.size v1 (out.take at') (some ⟨w1.heap.size, 0, none⟩) 1 1 [x] (ho1.alloc (.cells #[.string x] 9)) ?_ ?_ ?_ ?_ ?_ ?_ ?_ ?_
                     · simp [Act.eval]
                     · simp [Act.eval]
                     · rfl
                     · intro h; cases h
                     · exact strs_one (by simp)
                     · simp <;> omega
                     · have := hB1.size; simp <;> omega
                     intro v2 w2 ho2 hg2
                     have hB2 := below_grown (hB1.alloc hB1.size (.cells #[.string x] 9)) (ho1.alloc (.cells #[.string x] 9)) hg2 (Nat.le_refl _) (by have := hB1.size; simp <;> omega))
                  | (refine step_append_strs rfl (.tmp 50) (.tmp 55) rfl wr.heap.size v1 (out.take at') (some ⟨wr.heap.size + 1, 0, none⟩) 1 1 [x] (ho1) ?_ ?_ ?_ ?_ ?_ ?_ ?_ ?_
                     · simp [Act.eval]
                     · simp [Act.eval]
                     · rfl
                     · intro h; cases h
                     · exact strs_one gl
                     · simp <;> omega
                     · have := hB1.size; simp <;> omega
                     intro v2 w2 ho2 hg2
                     have hB2 := below_grown hB1 (ho1) hg2 (Nat.le_refl _) (by have := hB1.size; simp <;> omega))
                  | (refine step_append_strs rfl (.tmp 50) (.tmp 55) rfl wr.heap.size v1 (out.take at') (some ⟨wr.heap.size, 0, none⟩) 1 1 [x] (ho1) ?_ ?_ ?_ ?_ ?_ ?_ ?_ ?_
                     · simp [Act.eval]
                     · simp [Act.eval]
                     · rfl
                     · intro h; cases h
                     · exact strs_one gl
                     · simp <;> omega
                     · have := hB1.size; simp <;> omega
                     intro v2 w2 ho2 hg2
                     have hB2 := below_grown hB1 (ho1) hg2 (Nat.le_refl _) (by have := hB1.size; simp <;> omega))
                  | (refine step_append_strs rfl (.tmp 56) (.tmp 59) rfl wr.heap.size v2 ((out.take at') ++ [x]) (some ⟨g, at', none⟩) (out.length - at') (cV - at') (out.drop at') ho2 ?_ ?_ ?_ ?_ ?_ ?_ ?_ ?_
                     · simp [Act.eval]
                     · simp [Act.eval]
                     · simp <;> omega
                     · intro h; first | rfl | cases h
                     · exact HD.out.to hB2
                     · simp <;> omega
                     · exact hB2.size
                     intro v3 w3 ho3 hg3
                     have hB3 := below_grown hB2 ho2 hg3 (Nat.le_refl _) hB2.size)
                  | fail)
                all_goals
                  rw [← HL.out] at ho3
                  have Ho3 := Lib.hid ho3; clear ho3
                  obtain ⟨A3, c3, hv3, _⟩ := StrsAt.of_own Ho3.out
                  subst hv3
                  clear gx gx1 hg1 hg2 hg3 ho1 ho2
                  go_wp2_with fail
                  go_roundw
                  case rel => exact ⟨k + 1, L, A3, c3, by omega, by go_num, rfl, hLl, Ho3.out.mono hsz2, Hn.out, HLs.out, Hb2.out.trans (hB3.mono hsz2)⟩
                  case measure => simp [intOf]; omega
              · obtain rfl : at' = out.length := by omega
                rw [List.take_length, List.drop_length] at HL
                have hnil : ∀ A, Hid (StrsAt wr wr.heap.size A []) := fun A h => absurd h (by simp)
                clear HD
                by_cases hcv : cV = out.length
                · subst hcv
                  go_wp2_with fail
                  go_region_law (first
                    | (refine step_append_strs rfl (.tmp 46) (.tmp 49) rfl wr.heap.size (.slice (some ⟨wr.heap.size, 0, none⟩) 0 0) [] (some ⟨g, 0, none⟩) out.length out.length out (own0_a wr) ?_ ?_ ?_ ?_ ?_ ?_ ?_ ?_
                       · simp [Act.eval]
                       · simp [Act.eval]
                       · simp <;> omega
                       · intro h; first | rfl | cases h
                       · exact (HV2.out).to (((Below.refl wr.heap.size wr).alloc (Nat.le_refl _) (.cells #[] 9)).drew)
                       · simp <;> omega
                       · first | (simp; done) | (simp; omega)
                       intro v1 w1 ho1 hg1
                       have hB1 := below_grown (((Below.refl wr.heap.size wr).alloc (Nat.le_refl _) (.cells #[] 9)).drew) (own0_a wr) hg1 (Nat.le_refl _) (by first | (simp; done) | (simp; omega))
                       have gx1 : w1.cell? ⟨b, off + k, none⟩ = some (.string x) := (hB1.cell (p := ⟨b, off + k, none⟩) hbs).trans gx)
                    | (refine step_append_strs rfl (.tmp 46) (.tmp 49) rfl wr.heap.size (.slice (some ⟨wr.heap.size, 0, none⟩) 0 0) [] (some ⟨g, 0, none⟩) out.length out.length out (own0_d wr (.cells #[.string x] 9)) ?_ ?_ ?_ ?_ ?_ ?_ ?_ ?_
                       · simp [Act.eval]
                       · simp [Act.eval]
                       · simp <;> omega
                       · intro h; first | rfl | cases h
                       · exact (HV2.out).to ((((Below.refl wr.heap.size wr).alloc (Nat.le_refl _) (.cells #[] 9)).alloc (by simp) (.cells #[.string x] 9)).drew)
                       · simp <;> omega
                       · first | (simp; done) | (simp; omega)
                       intro v1 w1 ho1 hg1
                       have hB1 := below_grown ((((Below.refl wr.heap.size wr).alloc (Nat.le_refl _) (.cells #[] 9)).alloc (by simp) (.cells #[.string x] 9)).drew) (own0_d wr (.cells #[.string x] 9)) hg1 (Nat.le_refl _) (by first | (simp; done) | (simp; omega))
                       have gx1 : w1.cell? ⟨b, off + k, none⟩ = some (.string x) := (hB1.cell (p := ⟨b, off + k, none⟩) hbs).trans gx
                       have gl : w1.cell? ⟨wr.heap.size + 1, 0, none⟩ = some (.string x) := (cell_grownBy hg1 ⟨wr.heap.size + 1, 0, none⟩ (by first | (simp; done) | (simp; omega)) (by simp [Value.ownBlock])).trans (by simp))
                    | (refine step_append_strs rfl (.tmp 46) (.tmp 49) rfl wr.heap.size (.slice (some ⟨wr.heap.size + 1, 0, none⟩) 0 0) [] (some ⟨g, 0, none⟩) out.length out.length out (own0_f wr (.cells #[.string x] 9)) ?_ ?_ ?_ ?_ ?_ ?_ ?_ ?_
                       · simp [Act.eval]
                       · simp [Act.eval]
                       · simp <;> omega
                       · intro h; first | rfl | cases h
                       · exact (HV2.out).to ((((Below.refl wr.heap.size wr).alloc (Nat.le_refl _) (.cells #[.string x] 9)).alloc (by simp) (.cells #[] 9)).drew)
                       · simp <;> omega
                       · first | (simp; done) | (simp; omega)
                       intro v1 w1 ho1 hg1
                       have hB1 := below_grown ((((Below.refl wr.heap.size wr).alloc (Nat.le_refl _) (.cells #[.string x] 9)).alloc (by simp) (.cells #[] 9)).drew) (own0_f wr (.cells #[.string x] 9)) hg1 (Nat.le_refl _) (by first | (simp; done) | (simp; omega))
                       have gx1 : w1.cell? ⟨b, off + k, none⟩ = some (.string x) := (hB1.cell (p := ⟨b, off + k, none⟩) hbs).trans gx
                       have gl : w1.cell? ⟨wr.heap.size, 0, none⟩ = some (.string x) := (cell_grownBy hg1 ⟨wr.heap.size, 0, none⟩ (by first | (simp; done) | (simp; omega)) (by simp [Value.ownBlock])).trans (by simp))
                    | (refine step_append_strs rfl (.tmp 50) (.tmp 55) rfl wr.heap.size v1 out (some ⟨w1.heap.size, 0, none⟩) 1 1 [x] (ho1.alloc (.cells #[.string x] 9)) ?_ ?_ ?_ ?_ ?_ ?_ ?_ ?_
                       · simp [Act.eval]
                       · simp [Act.eval]
                       · rfl
                       · intro h; cases h
                       · exact strs_one (by simp)
                       · simp <;> omega
                       · have := hB1.size; simp <;> omega
                       intro v2 w2 ho2 hg2
                       have hB2 := below_grown (hB1.alloc hB1.size (.cells #[.string x] 9)) (ho1.alloc (.cells #[.string x] 9)) hg2 (Nat.le_refl _) (by have := hB1.size; simp <;> omega))
                    | (refine step_append_strs rfl (.tmp 50) (.tmp 55) rfl wr.heap.size v1 out (some ⟨wr.heap.size + 1, 0, none⟩) 1 1 [x] (ho1) ?_ ?_ ?_ ?_ ?_ ?_ ?_ ?_
                       · simp [Act.eval]
                       · simp [Act.eval]
                       · rfl
                       · intro h; cases h
                       · exact strs_one gl
                       · simp <;> omega
                       · have := hB1.size; simp <;> omega
                       intro v2 w2 ho2 hg2
                       have hB2 := below_grown hB1 (ho1) hg2 (Nat.le_refl _) (by have := hB1.size; simp <;> omega))
                    | (refine step_append_strs rfl (.tmp 50) (.tmp 55) rfl wr.heap.size v1 out (some ⟨wr.heap.size, 0, none⟩) 1 1 [x] (ho1) ?_ ?_ ?_ ?_ ?_ ?_ ?_ ?_
                       · simp [Act.eval]
                       · simp [Act.eval]
                       · rfl
                       · intro h; cases h
                       · exact strs_one gl
                       · simp <;> omega
                       · have := hB1.size; simp <;> omega
                       intro v2 w2 ho2 hg2
                       have hB2 := below_grown hB1 (ho1) hg2 (Nat.le_refl _) (by have := hB1.size; simp <;> omega))
                    | (refine step_append_strs rfl (.tmp 56) (.tmp 59) rfl wr.heap.size v2 (out ++ [x]) (some ⟨g, 0, none⟩) 0 0 [] ho2 ?_ ?_ ?_ ?_ ?_ ?_ ?_ ?_
                       · simp [Act.eval]
                       · simp [Act.eval]
                       · simp <;> omega
                       · intro h; first | rfl | cases h
                       · exact ((hnil _).out).to hB2
                       · simp <;> omega
                       · exact hB2.size
                       intro v3 w3 ho3 hg3
                       have hB3 := below_grown hB2 ho2 hg3 (Nat.le_refl _) hB2.size)
                    | fail)
                  all_goals
                    rw [← HL.out] at ho3
                    have Ho3 := Lib.hid ho3; clear ho3
                    obtain ⟨A3, c3, hv3, _⟩ := StrsAt.of_own Ho3.out
                    subst hv3
                    clear gx gx1 hg1 hg2 hg3 ho1 ho2
                    go_wp2_with fail
                    go_roundw
                    case rel => exact ⟨k + 1, L, A3, c3, by omega, by go_num, rfl, hLl, Ho3.out.mono hsz2, Hn.out, HLs.out, Hb2.out.trans (hB3.mono hsz2)⟩
                    case measure => simp [intOf]; omega
                · go_wp2_with fail
                  go_region_law (first
                    | (refine step_append_strs rfl (.tmp 46) (.tmp 49) rfl wr.heap.size (.slice (some ⟨wr.heap.size, 0, none⟩) 0 0) [] (some ⟨g, 0, none⟩) out.length cV out (own0_a wr) ?_ ?_ ?_ ?_ ?_ ?_ ?_ ?_
                       · simp [Act.eval]
                       · simp [Act.eval]
                       · simp <;> omega
                       · intro h; first | rfl | cases h
                       · exact (HV2.out).to (((Below.refl wr.heap.size wr).alloc (Nat.le_refl _) (.cells #[] 9)).drew)
                       · simp <;> omega
                       · first | (simp; done) | (simp; omega)
                       intro v1 w1 ho1 hg1
                       have hB1 := below_grown (((Below.refl wr.heap.size wr).alloc (Nat.le_refl _) (.cells #[] 9)).drew) (own0_a wr) hg1 (Nat.le_refl _) (by first | (simp; done) | (simp; omega))
                       have gx1 : w1.cell? ⟨b, off + k, none⟩ = some (.string x) := (hB1.cell (p := ⟨b, off + k, none⟩) hbs).trans gx)
                    | (refine step_append_strs rfl (.tmp 46) (.tmp 49) rfl wr.heap.size (.slice (some ⟨wr.heap.size, 0, none⟩) 0 0) [] (some ⟨g, 0, none⟩) out.length cV out (own0_d wr (.cells #[.string x] 9)) ?_ ?_ ?_ ?_ ?_ ?_ ?_ ?_
                       · simp [Act.eval]
                       · simp [Act.eval]
                       · simp <;> omega
                       · intro h; first | rfl | cases h
                       · exact (HV2.out).to ((((Below.refl wr.heap.size wr).alloc (Nat.le_refl _) (.cells #[] 9)).alloc (by simp) (.cells #[.string x] 9)).drew)
                       · simp <;> omega
                       · first | (simp; done) | (simp; omega)
                       intro v1 w1 ho1 hg1
                       have hB1 := below_grown ((((Below.refl wr.heap.size wr).alloc (Nat.le_refl _) (.cells #[] 9)).alloc (by simp) (.cells #[.string x] 9)).drew) (own0_d wr (.cells #[.string x] 9)) hg1 (Nat.le_refl _) (by first | (simp; done) | (simp; omega))
                       have gx1 : w1.cell? ⟨b, off + k, none⟩ = some (.string x) := (hB1.cell (p := ⟨b, off + k, none⟩) hbs).trans gx
                       have gl : w1.cell? ⟨wr.heap.size + 1, 0, none⟩ = some (.string x) := (cell_grownBy hg1 ⟨wr.heap.size + 1, 0, none⟩ (by first | (simp; done) | (simp; omega)) (by simp [Value.ownBlock])).trans (by simp))
                    | (refine step_append_strs rfl (.tmp 46) (.tmp 49) rfl wr.heap.size (.slice (some ⟨wr.heap.size + 1, 0, none⟩) 0 0) [] (some ⟨g, 0, none⟩) out.length cV out (own0_f wr (.cells #[.string x] 9)) ?_ ?_ ?_ ?_ ?_ ?_ ?_ ?_
                       · simp [Act.eval]
                       · simp [Act.eval]
                       · simp <;> omega
                       · intro h; first | rfl | cases h
                       · exact (HV2.out).to ((((Below.refl wr.heap.size wr).alloc (Nat.le_refl _) (.cells #[.string x] 9)).alloc (by simp) (.cells #[] 9)).drew)
                       · simp <;> omega
                       · first | (simp; done) | (simp; omega)
                       intro v1 w1 ho1 hg1
                       have hB1 := below_grown ((((Below.refl wr.heap.size wr).alloc (Nat.le_refl _) (.cells #[.string x] 9)).alloc (by simp) (.cells #[] 9)).drew) (own0_f wr (.cells #[.string x] 9)) hg1 (Nat.le_refl _) (by first | (simp; done) | (simp; omega))
                       have gx1 : w1.cell? ⟨b, off + k, none⟩ = some (.string x) := (hB1.cell (p := ⟨b, off + k, none⟩) hbs).trans gx
                       have gl : w1.cell? ⟨wr.heap.size, 0, none⟩ = some (.string x) := (cell_grownBy hg1 ⟨wr.heap.size, 0, none⟩ (by first | (simp; done) | (simp; omega)) (by simp [Value.ownBlock])).trans (by simp))
                    | (refine step_append_strs rfl (.tmp 50) (.tmp 55) rfl wr.heap.size v1 out (some ⟨w1.heap.size, 0, none⟩) 1 1 [x] (ho1.alloc (.cells #[.string x] 9)) ?_ ?_ ?_ ?_ ?_ ?_ ?_ ?_
                       · simp [Act.eval]
                       · simp [Act.eval]
                       · rfl
                       · intro h; cases h
                       · exact strs_one (by simp)
                       · simp <;> omega
                       · have := hB1.size; simp <;> omega
                       intro v2 w2 ho2 hg2
                       have hB2 := below_grown (hB1.alloc hB1.size (.cells #[.string x] 9)) (ho1.alloc (.cells #[.string x] 9)) hg2 (Nat.le_refl _) (by have := hB1.size; simp <;> omega))
                    | (refine step_append_strs rfl (.tmp 50) (.tmp 55) rfl wr.heap.size v1 out (some ⟨wr.heap.size + 1, 0, none⟩) 1 1 [x] (ho1) ?_ ?_ ?_ ?_ ?_ ?_ ?_ ?_
                       · simp [Act.eval]
                       · simp [Act.eval]
                       · rfl
                       · intro h; cases h
                       · exact strs_one gl
                       · simp <;> omega
                       · have := hB1.size; simp <;> omega
                       intro v2 w2 ho2 hg2
                       have hB2 := below_grown hB1 (ho1) hg2 (Nat.le_refl _) (by have := hB1.size; simp <;> omega))
                    | (refine step_append_strs rfl (.tmp 50) (.tmp 55) rfl wr.heap.size v1 out (some ⟨wr.heap.size, 0, none⟩) 1 1 [x] (ho1) ?_ ?_ ?_ ?_ ?_ ?_ ?_ ?_
                       · simp [Act.eval]
                       · simp [Act.eval]
                       · rfl
                       · intro h; cases h
                       · exact strs_one gl
                       · simp <;> omega
                       · have := hB1.size; simp <;> omega
                       intro v2 w2 ho2 hg2
                       have hB2 := below_grown hB1 (ho1) hg2 (Nat.le_refl _) (by have := hB1.size; simp <;> omega))
                    | (refine step_append_strs rfl (.tmp 56) (.tmp 59) rfl wr.heap.size v2 (out ++ [x]) (some ⟨g, out.length, none⟩) 0 (cV - out.length) [] ho2 ?_ ?_ ?_ ?_ ?_ ?_ ?_ ?_
                       · simp [Act.eval]
                       · simp [Act.eval]
                       · simp <;> omega
                       · intro h; first | rfl | cases h
                       · exact ((hnil _).out).to hB2
                       · simp <;> omega
                       · exact hB2.size
                       intro v3 w3 ho3 hg3
                       have hB3 := below_grown hB2 ho2 hg3 (Nat.le_refl _) hB2.size)
                    | fail)
                  all_goals
                    rw [← HL.out] at ho3
                    have Ho3 := Lib.hid ho3; clear ho3
                    obtain ⟨A3, c3, hv3, _⟩ := StrsAt.of_own Ho3.out
                    subst hv3
                    clear gx gx1 hg1 hg2 hg3 ho1 ho2
                    go_wp2_with fail
                    go_roundw
                    case rel => exact ⟨k + 1, L, A3, c3, by omega, by go_num, rfl, hLl, Ho3.out.mono hsz2, Hn.out, HLs.out, Hb2.out.trans (hB3.mono hsz2)⟩
                    case measure => simp [intOf]; omega
          · have Hn := Lib.hid (Ins.there hI.out hS.out _ Hz.out)
            go_wp2_with fail
            go_roundw
            case rel => exact ⟨k + 1, out, V, cV, by omega, by go_num, rfl, by omega, ho2, Hn.out, hos.out, hb2⟩
            case measure => simp [intOf]; omega
    · have Hf : Hid (Srt zs out) := by
        have := hS.out
        rw [List.take_of_length_le (by omega)] at this
        exact this
      have HV : Hid (StrsAt wr wr.heap.size V out) := StrsAt.of_own1 ho.out
      go_wp2
      go_ret
      exact ⟨V, cV, out, rfl, by omega, Hf.out, HV.out, hb⟩
end Go.Proofs.Ytfkhldllehdopaa
