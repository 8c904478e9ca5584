/-
  The contract of the document's own Cast.
-/
import Derived.Test.YtlfjkbghgfljaaaDoorTypCastC
namespace Go.Proofs.YtlfjkbghgfljaaaDoor
open Go.RowKit

set_option maxRecDepth 100000 in
set_option maxHeartbeats 3200000 in
theorem trcast_any (k n : Int) (s : ByteArray) (tk tm : Int) (w : World) (h1 : -9223372036854775808 ≤ n) (h2 : n < 9223372036854775808) :
    Calls Tryd.prog 19 #[VV k n s, TT tk tm] w fun e w' => e = .returned (castR k n s tk tm) ∧ Below w.heap.size w w' := by
  rw [← rcastR_eq]
  have HV := Lib.hid (fun w => vrright_any k n s w h1 h2)
  have HR := Lib.hid (fun w => trright_any tk tm w)
  have HD := Lib.hid (fun w => rdigits_any n w h1 h2)
  clear h1 h2
  have Hv : Hid (rcastR k n s tk tm = bif rightV k n (bs s) then bif rightT tk tm then bif k == 0 then cR (VV k n s) 0 else bif decide (tk < k) then cR (VV 0 0 ⟨#[]⟩) 9 else bif decide (tk < 3) then cR (VV tk n ⟨#[]⟩) 0 else
    bif decide (k < 3) then bif decide (tm < ((⟨(dz n).toArray⟩ : ByteArray).size : Int)) then cR (VV 0 0 ⟨#[]⟩) 10 else cR (VV tk 0 ⟨(dz n).toArray⟩) 0
    else bif decide (tm < (s.size : Int)) then cR (VV 0 0 ⟨#[]⟩) 10 else cR (VV tk 0 s) 0
    else cR (VV 0 0 ⟨#[]⟩) 2 else cR (VV 0 0 ⟨#[]⟩) 2) := rfl
  generalize rightV k n (bs s) = a at HV Hv
  generalize rightT tk tm = b at HR Hv
  generalize hz : (k == 0) = z at Hv
  generalize hc : decide (tk < k) = c at Hv
  generalize hd : decide (tk < 3) = d at Hv
  generalize hf : decide (k < 3) = f at Hv
  generalize (⟨(dz n).toArray⟩ : ByteArray) = D at HD Hv
  generalize hg : decide (tm < (s.size : Int)) = g at Hv
  generalize hg2 : decide (tm < (D.size : Int)) = g2 at Hv
  cases a
  · go_enter Tryd.func19, Tryd.ntmps19
    go_wp2_with fail
    refine (HV.out _).mono ?_
    rintro e w1 ⟨rfl, hb1⟩
    have HB := Lib.hid ((BxC.new w _ _ _ _ _ _ _ _ _ _ _).step hb1)
    clear hb1
    obtain ⟨⟨c0, c1, c2, _⟩, ⟨d0, d1, _⟩, ⟨e0, e1, e2, f0, f1, f2⟩, _, hb'⟩ := HB.out
    go_wp2_with fail
    try simp only [Exit.inBlock, Exit.then]
    refine bodyPost_ret (results_v2 rfl _ _ rfl HB.out.2.2.1.set3) rfl ?_
    exact ⟨by rw [Hv.out]; rfl, by go_grown⟩
  cases b
  · go_enter Tryd.func19, Tryd.ntmps19
    go_wp2_with fail
    refine (HV.out _).mono ?_
    rintro e w1 ⟨rfl, hb1⟩
    have HB := Lib.hid ((BxC.new w _ _ _ _ _ _ _ _ _ _ _).step hb1)
    clear hb1
    obtain ⟨⟨c0, c1, c2, _⟩, ⟨d0, d1, _⟩, _⟩ := HB.out
    go_wp2_with fail
    refine (HR.out _).mono ?_
    rintro e w2 ⟨rfl, hb2⟩
    have HB2 := Lib.hid (HB.out.step hb2)
    clear hb2 c0 c1 c2 d0 d1
    obtain ⟨⟨c0, c1, c2, _⟩, ⟨d0, d1, _⟩, ⟨e0, e1, e2, f0, f1, f2⟩, _, hb'⟩ := HB2.out
    go_wp2_with fail
    try simp only [Exit.inBlock, Exit.then]
    refine bodyPost_ret (results_v2 rfl _ _ rfl HB2.out.2.2.1.set3) rfl ?_
    exact ⟨by rw [Hv.out]; rfl, by go_grown⟩
  cases z
  · cases c
    · cases d
      · cases f
        · cases g
          · go_enter Tryd.func19, Tryd.ntmps19
            go_wp2_with fail
            refine (HV.out _).mono ?_
            rintro e w1 ⟨rfl, hb1⟩
            have HB := Lib.hid ((BxC.new w _ _ _ _ _ _ _ _ _ _ _).step hb1)
            clear hb1
            obtain ⟨⟨c0, c1, c2, _⟩, ⟨d0, d1, _⟩, _⟩ := HB.out
            go_wp2_with fail
            refine (HR.out _).mono ?_
            rintro e w2 ⟨rfl, hb2⟩
            have HB2 := Lib.hid (HB.out.step hb2)
            clear hb2 c0 c1 c2 d0 d1
            obtain ⟨⟨c0, c1, c2, _⟩, ⟨d0, d1, _⟩, ⟨e0, e1, e2, f0, f1, f2⟩, _, hb'⟩ := HB2.out
            go_wp2_with fail
            try simp only [Exit.inBlock, Exit.then]
            refine bodyPost_ret (results_v2 rfl _ _ rfl HB2.out.2.2.1.set3) rfl ?_
            exact ⟨by rw [Hv.out]; rfl, by go_grown⟩
          · go_enter Tryd.func19, Tryd.ntmps19
            go_wp2_with fail
            refine (HV.out _).mono ?_
            rintro e w1 ⟨rfl, hb1⟩
            have HB := Lib.hid ((BxC.new w _ _ _ _ _ _ _ _ _ _ _).step hb1)
            clear hb1
            obtain ⟨⟨c0, c1, c2, _⟩, ⟨d0, d1, _⟩, _⟩ := HB.out
            go_wp2_with fail
            refine (HR.out _).mono ?_
            rintro e w2 ⟨rfl, hb2⟩
            have HB2 := Lib.hid (HB.out.step hb2)
            clear hb2 c0 c1 c2 d0 d1
            obtain ⟨⟨c0, c1, c2, _⟩, ⟨d0, d1, _⟩, ⟨e0, e1, e2, f0, f1, f2⟩, _, hb'⟩ := HB2.out
            go_wp2_with fail
            try simp only [Exit.inBlock, Exit.then]
            refine bodyPost_ret (results_v2 rfl _ _ rfl HB2.out.2.2.1.set3) rfl ?_
            exact ⟨by rw [Hv.out]; rfl, by go_grown⟩
        · cases g2
          · go_enter Tryd.func19, Tryd.ntmps19
            go_wp2_with fail
            refine (HV.out _).mono ?_
            rintro e w1 ⟨rfl, hb1⟩
            have HB := Lib.hid ((BxC.new w _ _ _ _ _ _ _ _ _ _ _).step hb1)
            clear hb1
            obtain ⟨⟨c0, c1, c2, _⟩, ⟨d0, d1, _⟩, _⟩ := HB.out
            go_wp2_with fail
            refine (HR.out _).mono ?_
            rintro e w2 ⟨rfl, hb2⟩
            have HB2 := Lib.hid (HB.out.step hb2)
            clear hb2 c0 c1 c2 d0 d1
            obtain ⟨⟨c0, c1, c2, _⟩, ⟨d0, d1, _⟩, _⟩ := HB2.out
            go_wp2_with fail
            refine (HD.out _).mono ?_
            rintro e w3 ⟨rfl, rfl⟩
            clear c0 c1 c2 d0 d1
            obtain ⟨⟨c0, c1, c2, _⟩, ⟨d0, d1, _⟩, ⟨e0, e1, e2, f0, f1, f2⟩, _, hb'⟩ := HB2.out
            go_wp2_with fail
            try simp only [Exit.inBlock, Exit.then]
            refine bodyPost_ret (results_v2 rfl _ _ rfl HB2.out.2.2.1.set3) rfl ?_
            exact ⟨by rw [Hv.out]; rfl, by go_grown⟩
          · go_enter Tryd.func19, Tryd.ntmps19
            go_wp2_with fail
            refine (HV.out _).mono ?_
            rintro e w1 ⟨rfl, hb1⟩
            have HB := Lib.hid ((BxC.new w _ _ _ _ _ _ _ _ _ _ _).step hb1)
            clear hb1
            obtain ⟨⟨c0, c1, c2, _⟩, ⟨d0, d1, _⟩, _⟩ := HB.out
            go_wp2_with fail
            refine (HR.out _).mono ?_
            rintro e w2 ⟨rfl, hb2⟩
            have HB2 := Lib.hid (HB.out.step hb2)
            clear hb2 c0 c1 c2 d0 d1
            obtain ⟨⟨c0, c1, c2, _⟩, ⟨d0, d1, _⟩, _⟩ := HB2.out
            go_wp2_with fail
            refine (HD.out _).mono ?_
            rintro e w3 ⟨rfl, rfl⟩
            clear c0 c1 c2 d0 d1
            obtain ⟨⟨c0, c1, c2, _⟩, ⟨d0, d1, _⟩, ⟨e0, e1, e2, f0, f1, f2⟩, _, hb'⟩ := HB2.out
            go_wp2_with fail
            try simp only [Exit.inBlock, Exit.then]
            refine bodyPost_ret (results_v2 rfl _ _ rfl HB2.out.2.2.1.set3) rfl ?_
            exact ⟨by rw [Hv.out]; rfl, by go_grown⟩
      · go_enter Tryd.func19, Tryd.ntmps19
        go_wp2_with fail
        refine (HV.out _).mono ?_
        rintro e w1 ⟨rfl, hb1⟩
        have HB := Lib.hid ((BxC.new w _ _ _ _ _ _ _ _ _ _ _).step hb1)
        clear hb1
        obtain ⟨⟨c0, c1, c2, _⟩, ⟨d0, d1, _⟩, _⟩ := HB.out
        go_wp2_with fail
        refine (HR.out _).mono ?_
        rintro e w2 ⟨rfl, hb2⟩
        have HB2 := Lib.hid (HB.out.step hb2)
        clear hb2 c0 c1 c2 d0 d1
        obtain ⟨⟨c0, c1, c2, _⟩, ⟨d0, d1, _⟩, ⟨e0, e1, e2, f0, f1, f2⟩, _, hb'⟩ := HB2.out
        go_wp2_with fail
        try simp only [Exit.inBlock, Exit.then]
        refine bodyPost_ret (results_v2 rfl _ _ rfl HB2.out.2.2.1.set3) rfl ?_
        exact ⟨by rw [Hv.out]; rfl, by go_grown⟩
    · go_enter Tryd.func19, Tryd.ntmps19
      go_wp2_with fail
      refine (HV.out _).mono ?_
      rintro e w1 ⟨rfl, hb1⟩
      have HB := Lib.hid ((BxC.new w _ _ _ _ _ _ _ _ _ _ _).step hb1)
      clear hb1
      obtain ⟨⟨c0, c1, c2, _⟩, ⟨d0, d1, _⟩, _⟩ := HB.out
      go_wp2_with fail
      refine (HR.out _).mono ?_
      rintro e w2 ⟨rfl, hb2⟩
      have HB2 := Lib.hid (HB.out.step hb2)
      clear hb2 c0 c1 c2 d0 d1
      obtain ⟨⟨c0, c1, c2, _⟩, ⟨d0, d1, _⟩, ⟨e0, e1, e2, f0, f1, f2⟩, _, hb'⟩ := HB2.out
      go_wp2_with fail
      try simp only [Exit.inBlock, Exit.then]
      refine bodyPost_ret (results_v2 rfl _ _ rfl HB2.out.2.2.1.set3) rfl ?_
      exact ⟨by rw [Hv.out]; rfl, by go_grown⟩
  · go_enter Tryd.func19, Tryd.ntmps19
    go_wp2_with fail
    refine (HV.out _).mono ?_
    rintro e w1 ⟨rfl, hb1⟩
    have HB := Lib.hid ((BxC.new w _ _ _ _ _ _ _ _ _ _ _).step hb1)
    clear hb1
    obtain ⟨⟨c0, c1, c2, _⟩, ⟨d0, d1, _⟩, _⟩ := HB.out
    go_wp2_with fail
    refine (HR.out _).mono ?_
    rintro e w2 ⟨rfl, hb2⟩
    have HB2 := Lib.hid (HB.out.step hb2)
    clear hb2 c0 c1 c2 d0 d1
    obtain ⟨⟨c0, c1, c2, _⟩, ⟨d0, d1, _⟩, ⟨e0, e1, e2, f0, f1, f2⟩, _, hb'⟩ := HB2.out
    go_wp2_with fail
    try simp only [Exit.inBlock, Exit.then]
    refine bodyPost_ret (results_v2 rfl _ _ rfl HB2.out.2.2.1.set3) rfl ?_
    exact ⟨by rw [Hv.out]; rfl, by go_grown⟩
end Go.Proofs.YtlfjkbghgfljaaaDoor
