/-
  Contract of package value's readBytes.
-/
import Derived.Test.YtgoefndbpfhhaaaDoorValReadC
import Derived.Test.YtgoefndbpfhhaaaDoorValUnhexC
import Derived.Deep.CutBlock
import Derived.Deep.DeepCutAuto
namespace Go.Proofs.YtgoefndbpfhhaaaDoor
open Go.RowKit

/-- how the digits are parted from the rest -/
theorem cut_cases (s : ByteArray) (hs : s.size ≤ 1000000) (h2 : 2 ≤ s.size) : ∃ (D X : ByteArray) (ok : Bool), (∀ w, Calls Tryd.prog 70 #[.string (s.extract 2 s.size), .string ⟨#[34]⟩] w fun e w' => e = .returned (.tuple #[.string D, .string X, .bool ok]) ∧ Drew w w') ∧ D.size ≤ 1000000 ∧
    (ok = false → bytR (bs s) = ((0, 0, []), 0, 5)) ∧ (ok = true → (∀ t, bs D = hxs t → bytR (bs s) = resW (4, 0, t) (D.size + 3) (byE t)) ∧ ((∀ t, bs D ≠ hxs t) → bytR (bs s) = ((0, 0, []), 0, 5))) := by
  have hsz : (s.extract 2 s.size).size = s.size - 2 := by simp
  have hbs : bs (s.extract 2 s.size) = (bs s).drop 2 := bs_rest s 2
  rcases idx_split (bs (s.extract 2 s.size)) 34 with ⟨h1, h3⟩ | ⟨a, b, h1, h3, h4⟩
  · refine ⟨_, _, false, fun w => qcut_no _ w h1, by omega, fun _ => ?_, fun h => by cases h⟩
    unfold bytR
    rw [← hbs, uh_none h3]; rfl
  · have hk : a.length < (s.extract 2 s.size).size := by rw [← bs_length, h1]; simp
    refine ⟨_, _, true, fun w => qcut_yes _ a.length w h4 hk (by omega), by simp; omega, (fun h => by cases h), fun _ => ?_⟩
    have hD : bs ((s.extract 2 s.size).extract 0 a.length) = a := by rw [bs_front, h1]; simp
    have hDl : ((s.extract 2 s.size).extract 0 a.length).size = a.length := by rw [← bs_length, hD]
    obtain ⟨u1, u2⟩ := uh_split (a := a) (b := b) h3
    refine ⟨fun t ht => ?_, fun ht => ?_⟩
    · unfold bytR
      rw [← hbs, h1, u1 t (by rw [← hD]; exact ht), hDl]; rfl
    · unfold bytR
      rw [← hbs, h1, u2 (fun t e => ht t (by rw [hD]; exact e))]; rfl

set_option maxRecDepth 100000 in
set_option maxHeartbeats 1600000 in
theorem readBytes_any (s : ByteArray) (w : World) (hs : s.size ≤ 1000000) (h2 : 2 ≤ s.size) : Calls Tryd.prog 51 #[.string s] w fun e w' => e = .returned (resV (bytR (bs s))) ∧ Below w.heap.size w w' := by
  obtain ⟨D, X, ok, hC, hD, hno, hyes⟩ := cut_cases s hs h2
  have HC := Lib.hid hC; clear hC
  have Hno := Lib.hid hno; clear hno
  have Hyes := Lib.hid hyes; clear hyes
  have i2 : (2 : Int) ≤ (s.size : Int) := by omega
  have hcv := fun w' => run_string_one w' (w.heap.size + 1) 1 34 34 rfl
  go_enter Tryd.func51, Tryd.ntmps51
  go_upto_region 1 with fail
  go_cut [5, 6, 7] (fun x5 x6 x7 wx => x5 = .string D ∧ x6 = .string X ∧ x7 = .bool ok ∧ Below w.heap.size w wx ∧ w.heap.size < wx.heap.size ∧ Hid (Blk3 wx w.heap.size (.int .i64 0) (.int .i64 0) (.string ⟨#[]⟩)))
  case first =>
    go_region_with (go_at_call 70; refine (HC.out _).mono ?_; rintro e w1 ⟨rfl, hd⟩)
    all_goals
      have hB : Below (w.heap.size + 1) (w.alloc (.cells #[.int .i64 0, .int .i64 0, .string ⟨#[]⟩] 23)) w1 := Below.trans (by go_grown) (hd.below _)
      have hB0 : Below w.heap.size w w1 := ((Below.refl _ _).alloc (Nat.le_refl _) _).trans (hB.mono (by omega))
      have hlt : w.heap.size < w1.heap.size := by have := hB.size; simp at this; omega
      have HB : Hid (Blk3 w1 w.heap.size (.int .i64 0) (.int .i64 0) (.string ⟨#[]⟩)) := (Blk3.new w _ _ _ _).below hB (by omega)
      clear hB hd
      go_wp2_with fail
      go_meet
      exact ⟨rfl, rfl, rfl, hB0, hlt, HB⟩
  case rest =>
    obtain ⟨rfl, rfl, rfl, hb0, hlt0, HB⟩ := hcut
    clear hcv HC
    cases ok
    · have Hv : Hid (resV (bytR (bs s)) = .tuple #[VV 0 0 ⟨#[]⟩, .int .i64 0, .int .i64 5]) := by show _ = _; rw [Hno.out rfl]; exact resV_eq (t := []) rfl
      obtain ⟨c0, c1, c2, f0, f1, f2⟩ := HB.out
      go_wp2_with fail
      try simp only [Exit.inBlock, Exit.then]
      refine bodyPost_ret (results_v3 rfl _ _ rfl HB.out.set3) rfl ?_
      exact ⟨by rw [Hv.out]; rfl, by go_grown⟩
    · obtain ⟨hy1, hy2⟩ := Hyes.out rfl
      have Hy1 := Lib.hid hy1; clear hy1
      have Hy2 := Lib.hid hy2; clear hy2
      clear Hyes Hno
      go_wp2_with fail
      refine (fromHex_any D _ hD).mono ?_
      rintro e w1 ⟨⟨t, ht, rfl⟩ | ⟨hn, rfl⟩, hb1⟩
      · have Hv := Lib.hid (Hy1.out t ht)
        have HB1 := Lib.hid (HB.out.below hb1 hlt0)
        have hlt1 : w.heap.size < w1.heap.size := by have := hb1.size; omega
        have hb1' := hb0.trans (hb1.mono (Nat.le_of_lt hlt0))
        have H2 : Hid (∀ w, Calls Tryd.prog 12 #[.string ⟨t.toArray⟩] w fun e w' => e = .returned (byV ⟨t.toArray⟩) ∧ Below w.heap.size w w') := fun w => vbytes_any _ w
        have hbs : bs (⟨t.toArray⟩ : ByteArray) = t := bs_mk t
        clear Hy1 Hy2 HB hb0 hb1 ht hlt0
        rcases byE_cases t with hc | hc
        · have Hf : Hid (resV (bytR (bs s)) = .tuple #[VV 4 0 ⟨t.toArray⟩, .int .i64 ((D.size + 3 : Nat) : Int), .int .i64 0]) := by show _ = _; rw [Hv.out, hc]; exact resV_eq rfl
          rw [byV_ok (by rw [hbs]; exact hc)] at H2
          clear hbs Hv
          generalize (⟨t.toArray⟩ : ByteArray) = T at H2 Hf ⊢
          go_wp2_with fail
          refine (H2.out _).mono ?_
          rintro e w2 ⟨rfl, hb2⟩
          have HB2 := Lib.hid (HB1.out.below hb2 hlt1)
          have hlt2 : w.heap.size < w2.heap.size := by have := hb2.size; omega
          have hb2' := hb1'.trans (hb2.mono (Nat.le_of_lt hlt1))
          clear hb2 hb1' HB1
          go_wp2_with fail
          refine (sized_ok _ _ _ _ _).mono ?_
          rintro e w3 ⟨rfl, hb3⟩
          have HB3 := Lib.hid ((HB2.out.alloc hlt2 _).below hb3 (by simp; omega))
          have hb3' := hb2'.trans ((below_new hb3).mono (Nat.le_of_lt hlt2))
          clear hb3 hb2'
          obtain ⟨c0, c1, c2, f0, f1, f2⟩ := HB3.out
          go_wp2_with fail
          try simp only [Exit.inBlock, Exit.then]
          refine bodyPost_ret (results_v3 rfl _ _ rfl HB3.out.set3) rfl ?_
          exact ⟨by rw [Hf.out, show ((D.size + 3 : Nat) : Int) = 2 + (D.size : Int) + 1 by omega]; rfl, by go_grown⟩
        · have Hf : Hid (resV (bytR (bs s)) = .tuple #[VV 0 0 ⟨#[]⟩, .int .i64 0, .int .i64 3]) := by show _ = _; rw [Hv.out, hc]; exact resV_eq (t := []) rfl
          rw [byV_err (e := 3) (by rw [hbs]; exact hc) (by decide)] at H2
          clear hbs Hv
          generalize (⟨t.toArray⟩ : ByteArray) = T at H2 ⊢
          go_wp2_with fail
          refine (H2.out _).mono ?_
          rintro e w2 ⟨rfl, hb2⟩
          have HB2 := Lib.hid (HB1.out.below hb2 hlt1)
          have hlt2 : w.heap.size < w2.heap.size := by have := hb2.size; omega
          have hb2' := hb1'.trans (hb2.mono (Nat.le_of_lt hlt1))
          clear hb2 hb1' HB1
          go_wp2_with fail
          refine (sized_err _ _ _ _ _ _ (by decide)).mono ?_
          rintro e w3 ⟨rfl, hb3⟩
          have HB3 := Lib.hid ((HB2.out.alloc hlt2 _).below hb3 (by simp; omega))
          have hb3' := hb2'.trans ((below_new hb3).mono (Nat.le_of_lt hlt2))
          clear hb3 hb2'
          obtain ⟨c0, c1, c2, f0, f1, f2⟩ := HB3.out
          go_wp2_with fail
          try simp only [Exit.inBlock, Exit.then]
          refine bodyPost_ret (results_v3 rfl _ _ rfl HB3.out.set3) rfl ?_
          exact ⟨by rw [Hf.out]; rfl, by go_grown⟩
      · have Hv : Hid (resV (bytR (bs s)) = .tuple #[VV 0 0 ⟨#[]⟩, .int .i64 0, .int .i64 5]) := by show _ = _; rw [Hy2.out hn]; exact resV_eq (t := []) rfl
        have HB1 := Lib.hid (HB.out.below hb1 hlt0)
        have hb1' := hb0.trans (hb1.mono (Nat.le_of_lt hlt0))
        clear Hy1 Hy2 HB hb0 hb1 hn
        obtain ⟨c0, c1, c2, f0, f1, f2⟩ := HB1.out
        go_wp2_with fail
        try simp only [Exit.inBlock, Exit.then]
        refine bodyPost_ret (results_v3 rfl _ _ rfl HB1.out.set3) rfl ?_
        exact ⟨by rw [Hv.out]; rfl, by go_grown⟩
end Go.Proofs.YtgoefndbpfhhaaaDoor
