/-
  DdltextBack: for every change, every text and every number the law returns true: what is written is read as it was, with more blanks, too; whatever is read can be written, and is read again from that. No condition but that the tables of packages utf, typ and ddltext read as the program's text lays them (tied by the card).
-/
import Derived.Test.YtebldfnocpcddaaGreatDoorTie
import Derived.Test.YtebldfnocpcddaaGreatDoorCards
import Derived.ProofKit
import Derived.OpenShut
import Derived.ShutString
import Derived.ChangeOld
import Derived.LaidMore
import Derived.SevenTiedAt
import Derived.Lay
import Derived.Deep.CutBlock
import Derived.Deep.DeepCutAuto
import Derived.Test.YtebldfnocpcddaaGreatDoorPart34
import Derived.Test.YtebldfnocpcddaaGreatDoorPart44
namespace Go.Proofs.YtebldfnocpcddaaGreatDoor.ddltextBack
open Go.ChangeShapes Go.WideShapes Go.ChangeAt Go.RowKit
open Go.ChangeMaps (open_string shut_string)

set_option maxRecDepth 100000 in
set_option maxHeartbeats 12800000 in
theorem walk_t (a : Db) (s : ByteArray) (z : Int) (m : Nat) (w : World) (hin : InD w a) (hs : SmD a.p) (hz : z.tmod 3 = (m : Int)) (hm2 : m ≤ 2) (ht : Tbs w) :
    Calls Tryz.prog 5 #[DV a, .string s, .int .u8 z] w fun e w' => e = .returned (.bool true) ∧ Below w.heap.size w w' := by
  obtain ⟨w0, hw0, hb0, hX, hs0⟩ := box_d10 w a
  have Hw0 := Lib.hid hw0; clear hw0
  have HbW := Lib.hid hb0
  have HX := Lib.hid hX; clear hX
  have Hs0 := Lib.hid hs0; clear hs0
  have HA := Lib.hid (DdlAt.to hin.2.2.2.2.2.2.2.2.2.2.2.2.1 hb0)
  have HT := Lib.hid (ht.below hb0); clear ht hb0
  have HLv := Lib.hid (lives10_any w0 HT.out)
  have HFa := Lib.hid (fun w' h => few9_any a w' h hin.2.2.2.2.2.2.2.2.2.2.1 hs)
  have HWa := Lib.hid (fun h => WfP_of (d := a) h hin)
  have Hz := Lib.hid hz
  clear hin hs hz
  go_enter Tryz.func5, Tryz.ntmps5
  go_wp2_with fail
  try rw [Hw0.out]
  refine (HLv.out).mono ?_
  rintro e w1 ⟨rfl, hb⟩
  have Hb1 := Lib.hid hb
  clear hb
  try clear x0 x1 x2 x3 x4 x5 x6 x7 x8 x9 x10 x11
  obtain ⟨x0, x1, x2, x3, x4, x5, x6, x7, x8, x9, x10, x11⟩ := (HX.out.below Hb1.out (by have := Hs0.out; omega)).ddl
  go_wp2_with fail
  refine (HFa.out w1 (HA.out.to Hb1.out)).mono ?_
  rintro e w2 ⟨rfl, hb⟩
  have Hb2 := Lib.hid (bthen Hb1.out hb)
  clear hb
  try clear x0 x1 x2 x3 x4 x5 x6 x7 x8 x9 x10 x11
  obtain ⟨x0, x1, x2, x3, x4, x5, x6, x7, x8, x9, x10, x11⟩ := (HX.out.below Hb2.out (by have := Hs0.out; omega)).ddl
  cases hfa : fewD a.p
  · go_wp2_with fail
    go_ret
    exact ⟨by rw []; rfl, bthen HbW.out Hb2.out⟩
  by_cases hbig : 1500 < s.size
  · have q1 : decide ((1500 : Int) < (s.size : Int)) = true := by simp; omega
    have q2 : (1500 : Int) < (s.size : Int) := by omega
    clear hfa hbig
    go_wp2_with fail
    go_ret
    exact ⟨by rw []; rfl, bthen HbW.out Hb2.out⟩
  have q1 : decide ((1500 : Int) < (s.size : Int)) = false := by simp; omega
  have q2 : ¬ (1500 : Int) < (s.size : Int) := by omega
  have hss : s.size ≤ 1000000 := by omega
  have Hwa := Lib.hid (HWa.out hfa)
  clear hfa HWa HFa HLv hbig
  have HPr := Lib.hid (fun w t h => pprint_any a w t h Hwa.out)
  obtain ⟨t, ht⟩ : ∃ t, prD a.p = t := ⟨_, rfl⟩
  obtain ⟨E, hE⟩ : ∃ E, prE a.p = E := ⟨_, rfl⟩
  have HE : Hid (E = 0 → canD a.p = true ∧ bs t = dtx [32] a.p []) := fun h0 => by
    cases hc : canD a.p
    · have : prE a.p = 2 := if_neg (by rw [hc]; decide)
      omega
    · exact ⟨rfl, by rw [← ht, show prD a.p = strB (dtx [32] a.p []) from if_pos hc]; exact bs_mk _⟩
  rw [ht, hE] at HPr
  clear ht hE
  go_wp2_with fail
  clear q1 q2
  refine (HPr.out w2 (HT.out.below Hb2.out) (HA.out.to Hb2.out)).mono ?_
  rintro e w3 ⟨rfl, hb⟩
  have Hb3 := Lib.hid (bthen Hb2.out hb)
  clear hb
  try clear x0 x1 x2 x3 x4 x5 x6 x7 x8 x9 x10 x11
  obtain ⟨x0, x1, x2, x3, x4, x5, x6, x7, x8, x9, x10, x11⟩ := (HX.out.below Hb3.out (by have := Hs0.out; omega)).ddl
  go_upto_if 39 with fail
  go_cut [] (fun wx => Hid (Below w0.heap.size w0 wx))
  case first =>
    by_cases hE0 : E = 0
    case neg =>
      have t0 : ((E : Int) == 0) = false := by simp; omega
      clear hE0
      go_wp2_with fail
      go_meet
      exact Hb3.out
    obtain ⟨hc, htx⟩ := HE.out hE0
    subst hE0
    have t0 : (((0 : Nat) : Int) == 0) = true := rfl
    have Hc := Lib.hid hc; have Htx := Lib.hid htx
    have hts : t.size ≤ 20000 := by rw [← bs_length, htx]; exact dtx_len hc Hwa.out
    have HR1 := Lib.hid (text_res hc Hwa.out htx)
    clear hc htx
    go_wp2_with fail
    refine (qparse_any t _ (HT.out.below Hb3.out) (by omega)).mono ?_
    rintro e w4 ⟨hb, ⟨p, A, cap⟩, k, er, rfl, hda, hl, hr⟩
    obtain ⟨h1, rfl, rfl⟩ := hr.unique HR1.out
    have Hp : Hid (p = a.p) := h1
    have hl : p.cols.length ≤ 10 := hl
    have hl1 : p.cols.length ≤ 1000000 := by omega
    have HD4 := Lib.hid hda; have Hl1 := Lib.hid hl1
    have Hb4 := Lib.hid (bthen Hb3.out hb)
    clear hb hda hl hr hl1 h1
    try clear x0 x1 x2 x3 x4 x5 x6 x7 x8 x9 x10 x11
    obtain ⟨w5, hw5⟩ : ∃ w5, w4.alloc (.cells #[.int .i64 p.op, .string p.tb, .string p.co, .string p.to, .string p.key, .int .i64 p.tk, .int .i64 p.tm, .bool p.nl, .int .i64 p.dk, .int .i64 p.dn, .string p.ds, .slice A p.cols.length cap] 28) = w5 := ⟨_, rfl⟩
    have hbw5 : Below w4.heap.size w4 w5 := by rw [← hw5]; exact (Below.refl _ _).alloc (Nat.le_refl _) _
    obtain ⟨Ja, hJa⟩ : ∃ J, w4.heap.size = J := ⟨_, rfl⟩
    have HJa : Hid (Bk 28 w5 Ja (fD ⟨p, A, cap⟩)) := by rw [← hw5, ← hJa]; exact Bk.new w4 (fD ⟨p, A, cap⟩) 28
    have Hbw5 := Lib.hid (bthen Hb4.out hbw5)
    have Hww5 := Lib.hid hw5; have HJJa := Lib.hid hJa; have Hdw5 := Lib.hid hbw5; clear hw5 hJa hbw5
    go_upto_region 8 with fail
    rw [Hww5.out]
    try rw [HJJa.out]
    have HS1 := Lib.hid (rsame9_any ⟨p, A, cap⟩ a w5 (HD4.out.to Hdw5.out) (HA.out.to Hbw5.out) Hl1.out Hwa.out.2.2.2.2.2.2.1)
    rw [same_p ⟨p, A, cap⟩ a Hp.out] at HS1
    have tt : ((t.size : Int) != (t.size : Int)) = false := by simp
    have tz : (((0 : Nat) : Int) != 0) = false := rfl
    obtain ⟨x0, x1, x2, x3, x4, x5, x6, x7, x8, x9, x10, x11⟩ := (HX.out.below Hbw5.out (by have := Hs0.out; omega)).ddl
    have c0 := HJa.out.at 0 _ rfl; have c1 := HJa.out.at 1 _ rfl; have c2 := HJa.out.at 2 _ rfl; have c3 := HJa.out.at 3 _ rfl; have c4 := HJa.out.at 4 _ rfl; have c5 := HJa.out.at 5 _ rfl; have c6 := HJa.out.at 6 _ rfl; have c7 := HJa.out.at 7 _ rfl; have c8 := HJa.out.at 8 _ rfl; have c9 := HJa.out.at 9 _ rfl; have c10 := HJa.out.at 10 _ rfl; have c11 := HJa.out.at 11 _ rfl
    go_wp2_with fail
    refine HS1.out.mono ?_
    rintro e w6 ⟨rfl, hb⟩
    have Hb6 := Lib.hid (bthen Hbw5.out hb)
    clear hb x0 x1 x2 x3 x4 x5 x6 x7 x8 x9 x10 x11 c0 c1 c2 c3 c4 c5 c6 c7 c8 c9 c10 c11
    have HPl := Lib.hid (plain10_any t w6 (by omega))
    go_wp2_with fail
    by_cases h92 : (92 : UInt8) ∉ bs t
    case neg =>
      have hd : decide ((92 : UInt8) ∉ bs t) = false := by simpa using h92
      rw [hd] at HPl
      clear hd h92
      refine HPl.out.mono ?_
      rintro e w7 ⟨rfl, hb⟩
      have Hb7 := Lib.hid (bthen Hb6.out hb)
      clear hb
      go_wp2_with fail
      go_meet
      exact Hb7.out
    have hd : decide ((92 : UInt8) ∉ bs t) = true := by simpa using h92
    rw [hd] at HPl
    clear hd
    refine HPl.out.mono ?_
    rintro e w7 ⟨rfl, hb⟩
    have Hb7 := Lib.hid (bthen Hb6.out hb)
    clear hb
    obtain ⟨u, hu⟩ : ∃ u : ByteArray, bs u = (lse (xB m) false (bs t)).1 := ⟨strB _, rfl⟩
    have hus : u.size ≤ 60000 := by
      have := lse_len m hm2 (bs t) false
      rw [← hu, bs_length, bs_length] at this
      omega
    obtain ⟨v1, f1, g1, r1⟩ := add_ex ⟨#[10]⟩ u 1 60000 (by decide) hus (by omega)
    obtain ⟨v2, f2, g2, r2⟩ := add_ex v1 ⟨#[32, 9]⟩ 60001 2 g1 (by decide) (by omega)
    have HLo := Lib.hid (loose10_any t z m u w7 (by omega) Hz.out hm2 h92 hu)
    have HR2 : Hid (PRes (bs v2) a.p v2.size 0) := loose_res Hc.out Hwa.out Htx.out hu (by rw [f2, f1]; rfl) h92
    have hvs : v2.size ≤ 1000000 := by omega
    clear f1 f2 g1 g2 hu hus h92
    go_wp2_with fail
    refine HLo.out.mono ?_
    rintro e w8 ⟨rfl, hb⟩
    have Hb8 := Lib.hid (bthen Hb7.out hb)
    clear hb
    go_wp2_with fail
    refine (qparse_any v2 _ (HT.out.below Hb8.out) hvs).mono ?_
    rintro e w9 ⟨hb, ⟨p2, A2, cap2⟩, k, er, rfl, hda, hl, hr⟩
    obtain ⟨h1, rfl, rfl⟩ := hr.unique HR2.out
    have Hp2 : Hid (p2 = a.p) := h1
    have hl : p2.cols.length ≤ 10 := hl
    have hl1 : p2.cols.length ≤ 1000000 := by omega
    have HD9 := Lib.hid hda; have Hl2 := Lib.hid hl1
    have Hb9 := Lib.hid (bthen Hb8.out hb)
    clear hb hda hl hr hl1 h1 r1 r2
    obtain ⟨w10, hw10⟩ : ∃ w10, w9.alloc (.cells #[.int .i64 p2.op, .string p2.tb, .string p2.co, .string p2.to, .string p2.key, .int .i64 p2.tk, .int .i64 p2.tm, .bool p2.nl, .int .i64 p2.dk, .int .i64 p2.dn, .string p2.ds, .slice A2 p2.cols.length cap2] 28) = w10 := ⟨_, rfl⟩
    have hbw10 : Below w9.heap.size w9 w10 := by rw [← hw10]; exact (Below.refl _ _).alloc (Nat.le_refl _) _
    obtain ⟨Jb, hJb⟩ : ∃ J, w9.heap.size = J := ⟨_, rfl⟩
    have HJb : Hid (Bk 28 w10 Jb (fD ⟨p2, A2, cap2⟩)) := by rw [← hw10, ← hJb]; exact Bk.new w9 (fD ⟨p2, A2, cap2⟩) 28
    have Hbw10 := Lib.hid (bthen Hb9.out hbw10)
    have Hww10 := Lib.hid hw10; have HJJb := Lib.hid hJb; have Hdw10 := Lib.hid hbw10; clear hw10 hJb hbw10
    go_upto_region 12 with fail
    rw [Hww10.out]
    try rw [HJJb.out]
    have HS2 := Lib.hid (rsame9_any ⟨p2, A2, cap2⟩ a w10 (HD9.out.to Hdw10.out) (HA.out.to Hbw10.out) Hl2.out Hwa.out.2.2.2.2.2.2.1)
    rw [same_p ⟨p2, A2, cap2⟩ a Hp2.out] at HS2
    obtain ⟨x0, x1, x2, x3, x4, x5, x6, x7, x8, x9, x10, x11⟩ := (HX.out.below Hbw10.out (by have := Hs0.out; omega)).ddl
    have c0 := HJb.out.at 0 _ rfl; have c1 := HJb.out.at 1 _ rfl; have c2 := HJb.out.at 2 _ rfl; have c3 := HJb.out.at 3 _ rfl; have c4 := HJb.out.at 4 _ rfl; have c5 := HJb.out.at 5 _ rfl; have c6 := HJb.out.at 6 _ rfl; have c7 := HJb.out.at 7 _ rfl; have c8 := HJb.out.at 8 _ rfl; have c9 := HJb.out.at 9 _ rfl; have c10 := HJb.out.at 10 _ rfl; have c11 := HJb.out.at 11 _ rfl
    go_wp2_with fail
    refine HS2.out.mono ?_
    rintro e w11 ⟨rfl, hb⟩
    have Hb11 := Lib.hid (bthen Hbw10.out hb)
    clear hb x0 x1 x2 x3 x4 x5 x6 x7 x8 x9 x10 x11 c0 c1 c2 c3 c4 c5 c6 c7 c8 c9 c10 c11
    go_wp2_with fail
    go_meet
    exact Hb11.out
  case rest =>
    have Hbc : Hid (Below w0.heap.size w0 wc) := hcut
    clear hcut
    try clear x0 x1 x2 x3 x4 x5 x6 x7 x8 x9 x10 x11
    go_wp2_with fail
    refine (qparse_any s _ (HT.out.below Hbc.out) hss).mono ?_
    rintro e w4 ⟨hb, ⟨p, A, cap⟩, k, er, rfl, hda, hl, hr⟩
    have hl : p.cols.length ≤ 10 := hl
    have hl1 : p.cols.length ≤ 1000000 := by omega
    have HD4 := Lib.hid hda; have Hl1 := Lib.hid hl1; have HR := Lib.hid hr
    have Hb4 := Lib.hid (bthen Hbc.out hb)
    clear hb hda hl hr hl1
    obtain ⟨w5, hw5⟩ : ∃ w5, w4.alloc (.cells #[.int .i64 p.op, .string p.tb, .string p.co, .string p.to, .string p.key, .int .i64 p.tk, .int .i64 p.tm, .bool p.nl, .int .i64 p.dk, .int .i64 p.dn, .string p.ds, .slice A p.cols.length cap] 28) = w5 := ⟨_, rfl⟩
    have hbw5 : Below w4.heap.size w4 w5 := by rw [← hw5]; exact (Below.refl _ _).alloc (Nat.le_refl _) _
    obtain ⟨Ja, hJa⟩ : ∃ J, w4.heap.size = J := ⟨_, rfl⟩
    have HJa : Hid (Bk 28 w5 Ja (fD ⟨p, A, cap⟩)) := by rw [← hw5, ← hJa]; exact Bk.new w4 (fD ⟨p, A, cap⟩) 28
    have Hbw5 := Lib.hid (bthen Hb4.out hbw5)
    have Hww5 := Lib.hid hw5; have HJJa := Lib.hid hJa; have Hdw5 := Lib.hid hbw5; clear hw5 hJa hbw5
    go_upto_region 15 with fail
    rw [Hww5.out]
    try rw [HJJa.out]
    by_cases he : er = 0
    case neg =>
      have t0 : ((er : Int) != 0) = true := by simp; omega
      obtain ⟨hp0, hk⟩ : p = dp0 0 [] ∧ k ≤ s.size := by
        rcases HR.out with ⟨h, _⟩ | ⟨_, h2, q, _, h4, h5⟩
        · exact absurd h he
        · refine ⟨h2, ?_⟩
          rw [bs_length] at h5
          omega
      have k1 : (0 : Int) ≤ (k : Int) := by omega
      have k2 : (k : Int) ≤ (s.size : Int) := by omega
      have k3 : decide ((0 : Int) ≤ (k : Int)) = true := by simp
      have k4 : decide ((k : Int) ≤ (s.size : Int)) = true := by simpa using k2
      have HS1 := Lib.hid (rsame9_any ⟨p, A, cap⟩ ⟨dp0 0 [], none, 0⟩ w5 (HD4.out.to Hdw5.out) (fun h => absurd h (by simp [dp0])) Hl1.out (by simp [dp0]))
      rw [same_p ⟨p, A, cap⟩ ⟨dp0 0 [], none, 0⟩ hp0] at HS1
      clear he hp0 hk
      go_upto_region 16 with fail
      have c0 := HJa.out.at 0 _ rfl; have c1 := HJa.out.at 1 _ rfl; have c2 := HJa.out.at 2 _ rfl; have c3 := HJa.out.at 3 _ rfl; have c4 := HJa.out.at 4 _ rfl; have c5 := HJa.out.at 5 _ rfl; have c6 := HJa.out.at 6 _ rfl; have c7 := HJa.out.at 7 _ rfl; have c8 := HJa.out.at 8 _ rfl; have c9 := HJa.out.at 9 _ rfl; have c10 := HJa.out.at 10 _ rfl; have c11 := HJa.out.at 11 _ rfl
      go_wp2_with fail
      refine HS1.out.mono ?_
      rintro e w6 ⟨rfl, hb⟩
      have Hb6 := Lib.hid (bthen Hbw5.out hb)
      clear hb c0 c1 c2 c3 c4 c5 c6 c7 c8 c9 c10 c11
      go_wp2_with fail
      go_ret
      exact ⟨by rw []; rfl, bthen HbW.out Hb6.out⟩
    subst he
    have t0 : (((0 : Nat) : Int) != 0) = false := rfl
    obtain ⟨hok, hk⟩ : pAll (bs s) = .ok p ∧ k = s.size := by
      rcases HR.out with ⟨_, h2, h3⟩ | ⟨h, _⟩
      · exact ⟨h2, by rw [h3, bs_length]⟩
      · exact absurd rfl h
    subst hk
    obtain ⟨hc, hw⟩ := parsed_wf hok
    have HW := Lib.hid hw
    obtain ⟨t2, ht2⟩ : ∃ t, strB (dtx [32] p []) = t := ⟨_, rfl⟩
    have htx : bs t2 = dtx [32] p [] := by rw [← ht2]; exact bs_mk _
    have HPr2 := Lib.hid (pprint_yes ⟨p, A, cap⟩ w5 t2 (HT.out.below Hbw5.out) (HD4.out.to Hdw5.out) hw hc ht2)
    have hts : t2.size ≤ 1000000 := by have := dtx_len hc hw; rw [← htx, bs_length] at this; omega
    have HR2 := Lib.hid (text_res hc hw htx)
    have ts : ((s.size : Int) == (s.size : Int)) = true := by simp
    have tz : (((0 : Nat) : Int) == 0) = true := rfl
    clear hok hc hw htx ht2
    go_upto_region 17 with fail
    have c0 := HJa.out.at 0 _ rfl; have c1 := HJa.out.at 1 _ rfl; have c2 := HJa.out.at 2 _ rfl; have c3 := HJa.out.at 3 _ rfl; have c4 := HJa.out.at 4 _ rfl; have c5 := HJa.out.at 5 _ rfl; have c6 := HJa.out.at 6 _ rfl; have c7 := HJa.out.at 7 _ rfl; have c8 := HJa.out.at 8 _ rfl; have c9 := HJa.out.at 9 _ rfl; have c10 := HJa.out.at 10 _ rfl; have c11 := HJa.out.at 11 _ rfl
    go_wp2_with fail
    refine HPr2.out.mono ?_
    rintro e w6 ⟨rfl, hb⟩
    have Hb6 := Lib.hid (bthen Hbw5.out hb); have HJa6 := Lib.hid (HJa.out.below hb); have HD6 := Lib.hid ((HD4.out.to Hdw5.out).to hb)
    clear hb c0 c1 c2 c3 c4 c5 c6 c7 c8 c9 c10 c11
    go_wp2_with fail
    refine (qparse_any t2 _ (HT.out.below Hb6.out) hts).mono ?_
    rintro e w7 ⟨hb, ⟨p2, A2, cap2⟩, k, er, rfl, hda, _, hr⟩
    obtain ⟨h1, rfl, rfl⟩ := hr.unique HR2.out
    have Hp2 : Hid (p = p2) := h1.symm
    have hl2 : p2.cols.length ≤ 1000000 := by rw [← Hp2.out]; exact Hl1.out
    have Hl2 := Lib.hid hl2
    have HD7 := Lib.hid (HD6.out.to hb); have HE7 := Lib.hid hda; have HJa7 := Lib.hid (HJa6.out.below hb)
    have Hb7 := Lib.hid (bthen Hb6.out hb)
    clear hb hda hr h1 hl2
    obtain ⟨w8, hw8⟩ : ∃ w8, w7.alloc (.cells #[.int .i64 p2.op, .string p2.tb, .string p2.co, .string p2.to, .string p2.key, .int .i64 p2.tk, .int .i64 p2.tm, .bool p2.nl, .int .i64 p2.dk, .int .i64 p2.dn, .string p2.ds, .slice A2 p2.cols.length cap2] 28) = w8 := ⟨_, rfl⟩
    have hbw8 : Below w7.heap.size w7 w8 := by rw [← hw8]; exact (Below.refl _ _).alloc (Nat.le_refl _) _
    obtain ⟨Jb, hJb⟩ : ∃ J, w7.heap.size = J := ⟨_, rfl⟩
    have HJb : Hid (Bk 28 w8 Jb (fD ⟨p2, A2, cap2⟩)) := by rw [← hw8, ← hJb]; exact Bk.new w7 (fD ⟨p2, A2, cap2⟩) 28
    have Hbw8 := Lib.hid (bthen Hb7.out hbw8)
    have Hww8 := Lib.hid hw8; have HJJb := Lib.hid hJb; have Hdw8 := Lib.hid hbw8; clear hw8 hJb hbw8
    go_upto_region 19 with fail
    rw [Hww8.out]
    try rw [HJJb.out]
    have HJa8 := Lib.hid (HJa7.out.below Hdw8.out)
    have HS2 := Lib.hid (rsame9_any ⟨p, A, cap⟩ ⟨p2, A2, cap2⟩ w8 (HD7.out.to Hdw8.out) (HE7.out.to Hdw8.out) Hl1.out Hl2.out)
    rw [same_p ⟨p, A, cap⟩ ⟨p2, A2, cap2⟩ Hp2.out] at HS2
    have c0 := HJa8.out.at 0 _ rfl; have c1 := HJa8.out.at 1 _ rfl; have c2 := HJa8.out.at 2 _ rfl; have c3 := HJa8.out.at 3 _ rfl; have c4 := HJa8.out.at 4 _ rfl; have c5 := HJa8.out.at 5 _ rfl; have c6 := HJa8.out.at 6 _ rfl; have c7 := HJa8.out.at 7 _ rfl; have c8 := HJa8.out.at 8 _ rfl; have c9 := HJa8.out.at 9 _ rfl; have c10 := HJa8.out.at 10 _ rfl; have c11 := HJa8.out.at 11 _ rfl
    have l0 := HJb.out.at 0 _ rfl; have l1 := HJb.out.at 1 _ rfl; have l2 := HJb.out.at 2 _ rfl; have l3 := HJb.out.at 3 _ rfl; have l4 := HJb.out.at 4 _ rfl; have l5 := HJb.out.at 5 _ rfl; have l6 := HJb.out.at 6 _ rfl; have l7 := HJb.out.at 7 _ rfl; have l8 := HJb.out.at 8 _ rfl; have l9 := HJb.out.at 9 _ rfl; have l10 := HJb.out.at 10 _ rfl; have l11 := HJb.out.at 11 _ rfl
    go_wp2_with fail
    refine HS2.out.mono ?_
    rintro e w9 ⟨rfl, hb⟩
    have Hb9 := Lib.hid (bthen Hbw8.out hb)
    clear hb c0 c1 c2 c3 c4 c5 c6 c7 c8 c9 c10 c11 l0 l1 l2 l3 l4 l5 l6 l7 l8 l9 l10 l11
    go_wp2_with fail
    go_ret
    exact ⟨by rw []; rfl, bthen HbW.out Hb9.out⟩
theorem u8_mod (z : Int) (h : (Lit.int .u8 z).wf = true) : ∃ m : Nat, z.tmod 3 = (m : Int) ∧ m ≤ 2 := by
  have := bounds_u8 h
  refine ⟨z.toNat % 3, ?_, by omega⟩
  obtain ⟨n, rfl⟩ : ∃ n : Nat, z = (n : Int) := ⟨z.toNat, by omega⟩
  rw [Int.tmod_eq_emod_of_nonneg (by omega)]
  simp
theorem walk (a : Db) (s : ByteArray) (z : Int) (w : World) (hin : InD w a) (hs : SmD a.p) (_ : s.size ≤ maxLen) (hz : (Lit.int .u8 z).wf = true) (hL : laidMetH Tryz.prog Rows.ddltextBackRow.laid w) :
    Calls Tryz.prog 5 #[DV a, .string s, .int .u8 z] w fun e w' => e = .returned (.bool true) ∧ Below w.heap.size w w' := by
  obtain ⟨m, h1, h2⟩ := u8_mod z hz
  exact walk_t a s z m w hin hs h1 h2 ⟨utab_of (by kernel_rfl) (by repeat (first | exact List.Mem.head _ | apply List.Mem.tail)) (by repeat (first | exact List.Mem.head _ | apply List.Mem.tail)) hL, ktab_of (by kernel_rfl) (by repeat (first | exact List.Mem.head _ | apply List.Mem.tail)) hL, wtab_of (by kernel_rfl) (by repeat (first | exact List.Mem.head _ | apply List.Mem.tail)) hL⟩
theorem own : ownKnob Tryz.prog.godebug = none := by kernel_rfl
theorem laidOut : laidOutB Tryz.prog = true := by kernel_rfl
theorem door_met (os : Os) (args : Array Value) : laidMetH Tryz.prog Rows.ddltextBackRow.laid ((World.laidAll Tryz.prog os Rows.ddltextBackRow.laid).forCall (fun _ _ => 0) ⟨#[], args, []⟩).memory := by
  rw [MakeChecks.laidMetH_plain _ _ _ (by kernel_rfl)]
  exact laidMet_laidAll args (by kernel_rfl) (by kernel_rfl)
set_option maxRecDepth 100000 in
theorem lifted (os : Os) (started : os.Started) (H : Type) (enc : TypeId × Value → H) :
    ReturnsInHanded {} Tryz.checked os 5 .any (fun w args => (Rows.ddltextBackSpec.pre enc Tryz.prog Tryz.f5 [] false w args ∧ laidMetH Tryz.prog Rows.ddltextBackRow.laid w) ∧ sizedMet enc Tryz.prog Tryz.f5 (OpenSpec.ofChange Rows.ddltextBackSpec) false w args)
      (Rows.ddltextBackSpec.post enc Tryz.prog Tryz.f5 false true false false) := by
  refine returnsInHanded_of_change_and (C := Tryz.checked) (X := fun w _ => laidMetH Tryz.prog Rows.ddltextBackRow.laid w) (fun _ _ _ hh h => h.of_heap hh) own started (by kernel_rfl) Tryz.func5
    (ChangeSpec.witness_shaped (enc := enc) (C := Tryz.checked) (os := os) (X := fun w _ => laidMetH Tryz.prog Rows.ddltextBackRow.laid w) false (World.laidAll Tryz.prog os Rows.ddltextBackRow.laid) #[.agg #[.int .i64 0, .string ByteArray.empty, .string ByteArray.empty, .string ByteArray.empty, .string ByteArray.empty, .int .i64 0, .int .i64 0, .bool false, .int .i64 0, .int .i64 0, .string ByteArray.empty, .slice none 0 0], .string ByteArray.empty, .int .u8 0] 8 (World.laidAll_os _ _ _) (World.shaped_of_ZipB (by kernel_rfl) (by kernel_rfl)) (by kernel_rfl) (by kernel_rfl) (by kernel_rfl) (door_met os _)) ?_
  intro W base args ds gs before hval0 hW hcnd hz0 hL _
  have hval : ∀ (j : Nat) t v, Tryz.f5.params[j]? = some t → args[j]? = some v → Value.okWide Tryz.prog W .any base t v := hval0
  have hz1 := sized_each hz0
  have hW' := hW
  obtain ⟨p, q, hA0, hV, rfl, hfz, hnd⟩ := hW
  have hA : DataW.TrodAll enc Tryz.prog W 0 (fun _ => true) true Tryz.f5.params.toList args.toList ds p := hA0
  rw [Tryz.params5] at hA hval hz1
  obtain ⟨v0, vs0, d0, ds0, p0, q0, hargs, rfl, rfl, h0, r0⟩ := trodAll_cons hA
  obtain ⟨v1, vs1, d1, ds1, p1, q1, rfl, rfl, rfl, h1, r1⟩ := trodAll_cons r0
  obtain ⟨v2, vs2, d2, ds2, p2, q2, rfl, rfl, rfl, h2, r2⟩ := trodAll_cons r1
  obtain ⟨rfl, rfl, rfl⟩ := trodAll_nil r2
  obtain rfl : args = #[v0, v1, v2] := by cases args; simp_all
  obtain ⟨rfl, rfl⟩ := trodVars_none hV
  have k0 := h0
  have lt0 : ∀ x ∈ p0, x.block < W.heap.size := by obtain ⟨m, hm⟩ := k0; exact DataW.trod_lt m _ _ _ hm
  obtain ⟨t0, rfl, w0, z0⟩ := openDDLW (hval 0 28 v0 rfl rfl) h0 (hz1 0 28 d0 rfl rfl)
  obtain ⟨a1, rfl, rfl, rfl, w1⟩ := open_string Tryz.underlying9 (hval 1 9 v1 rfl rfl) h1
  obtain ⟨a2, rfl, rfl, rfl, w2⟩ := open_int Tryz.underlying5 (hval 2 5 v2 rfl rfl) h2
  clear hA0 hval0
  refine (walk t0 a1 a2 W w0 z0 w1 w2 hL).mono fun e W' ⟨he, bel⟩ => ?_
  subst he
  exact ⟨_, rfl, _, _, _, [], _, [], hW', trodAll_mk1 (shut_bool Tryz.underlying4 _), (trodAll_cons_mk (Below.trod laidOut (by kernel_rfl) (of_decide_eq_true (by kernel_rfl)) k0 bel lt0) (trodAll_cons_mk (shut_string Tryz.underlying9 w1) (trodAll_cons_mk (shut_int Tryz.underlying5 w2) trodAll_mk0))), rfl, bel.frame _, fun h => by cases h⟩

theorem over : Rows.DdltextBackSaid :=
  OpenClaim.holds_of_wide 5 Tryz.f5 rfl rfl rfl rfl rfl rfl rfl ⟨rfl, rfl, rfl, rfl, rfl⟩ rfl rfl rfl rfl rfl (by kernel_rfl) Tryz.func5 (by kernel_rfl)
    (of_decide_eq_true (by kernel_rfl)) (by unfold Func.isWrapper; first | (rw [if_pos (by decide +kernel)]; kernel_rfl) | (rw [if_neg (by decide +kernel)]; exact ⟨rfl, rfl⟩))
    (fun os started H enc _ => lifted os started H enc)

/-- the given statement: the card -/
theorem proved : Rows.DdltextBackCardSaid :=
  Claim7.holds_tied_plain_at .later [] [.data, .data, .data, .data, .data, .pinned] true (true, "0cb059bcbcc0aca0d26491598ff56dcbb5a3f1857b9cdcd3953b8b2bd2b7305c") true
    over (fun _ h => by cases h) (by kernel_rfl) (fun _ h => by cases h) ddltextBack_row_tie rfl ⟨rfl, rfl⟩ (by kernel_rfl) rfl
    (fun f fn hf hfn => by
      obtain rfl : f = 5 := Option.some.inj ((show Tryz.prog.funcNamed "haulage/haulagelaw10.DdltextBack" = some 5 by kernel_rfl).symm.trans hf) |>.symm
      obtain rfl : fn = Tryz.f5 := (Option.some.inj (Tryz.func5.symm.trans hfn)).symm
      exact ⟨by kernel_rfl, fun j t ht => by
        rw [Tryz.params5] at ht
        have hm : t ∈ [28, 9, 5] := by simpa using Array.mem_of_getElem? ht
        have hall : ([28, 9, 5].all fun u => !Tryz.prog.wantsStandIn u) = true := by kernel_rfl
        exact (show Tryz.prog.wantsStandIn t = false by simpa using List.all_eq_true.1 hall t hm)⟩)
    (by kernel_rfl)
#print axioms proved
end Go.Proofs.YtebldfnocpcddaaGreatDoor.ddltextBack
