/-
  DdlApart: for every catalog and every two changes the law returns true: without the document's answer: two changes that touch unlike names come to the same in either order, where both may be done in both; and tables of other names stay as they were. No condition but that the two tables of package utf read as the program's text lays them (tied by the card).
-/
import Derived.Test.YtlbdbaafmdikcaaGreatDoorTie
import Derived.Test.YtlbdbaafmdikcaaGreatDoorCards
import Derived.ProofKit
import Derived.OpenShut
import Derived.ShutString
import Derived.ChangeOld
import Derived.LaidMore
import Derived.SevenTiedAt
import Derived.Deep.CutBlock
import Derived.Deep.DeepCutAuto
import Derived.Test.YtlbdbaafmdikcaaGreatDoorPart1
import Derived.Test.YtlbdbaafmdikcaaGreatDoorPart2
import Derived.Test.YtlbdbaafmdikcaaGreatDoorPart3
import Derived.Test.YtlbdbaafmdikcaaGreatDoorPart4
import Derived.Test.YtlbdbaafmdikcaaGreatDoorPart5
namespace Go.Proofs.YtlbdbaafmdikcaaGreatDoor.ddlApart
open Go.ChangeShapes Go.WideShapes Go.ChangeAt Go.RowKit
open Go.ChangeMaps (open_string shut_string)

/-- the boxes of a catalog and two changes -/
theorem box_cdd (w : World) (v : Value) (a b : Db) : ∃ w0, ((w.alloc (.cells #[v] 37)).alloc (.cells #[.int .i64 a.p.op, .string a.p.tb, .string a.p.co, .string a.p.to, .string a.p.key, .int .i64 a.p.tk, .int .i64 a.p.tm, .bool a.p.nl, .int .i64 a.p.dk, .int .i64 a.p.dn, .string a.p.ds, .slice a.A a.p.cols.length a.cap] 28)).alloc (.cells #[.int .i64 b.p.op, .string b.p.tb, .string b.p.co, .string b.p.to, .string b.p.key, .int .i64 b.p.tk, .int .i64 b.p.tm, .bool b.p.nl, .int .i64 b.p.dk, .int .i64 b.p.dn, .string b.p.ds, .slice b.A b.p.cols.length b.cap] 28) = w0 ∧
    Below w.heap.size w w0 ∧ BlkN w0 w.heap.size [v] ∧ BlkN w0 (w.heap.size + 1) (fD a) ∧ BlkN w0 (w.heap.size + 2) (fD b) ∧ w0.heap.size = w.heap.size + 3 :=
  ⟨_, rfl, (below_two w _ _).alloc (by simp; omega) _, ((BlkN.new w _ [v] _ rfl).alloc (by simp) _).alloc (by simp; omega) _, (BlkN.new _ _ (fD a) _ (by simp)).alloc (by simp) _, BlkN.new _ _ (fD b) _ (by simp), by simp⟩
theorem touches_mem {d : Dp} {l : List ByteArray} {s : ByteArray} (h : NamesV d l) (hp : plainD d = true) (ht : Touches d s) : s ∈ l := by
  unfold NamesV at h
  rw [if_pos hp] at h
  rw [h.2]
  rcases ht with rfl | ⟨e, rfl⟩
  · split <;> simp
  · rw [if_pos e]; simp
set_option maxRecDepth 100000 in
set_option maxHeartbeats 12800000 in
theorem walk_t (A : Option Addr) (cap : Nat) (l : List Tb) (a b : Db) (w : World) (hc : TabsIn w A cap l) (hin : InD w a) (hs : SmD a.p) (hin2 : InD w b) (hs2 : SmD b.p) (ht : UTab w) :
    Calls Tryz.prog 5 #[.agg #[.slice A l.length cap], DV a, DV b] w fun e w' => e = .returned (.bool true) ∧ Below w.heap.size w w' := by
  obtain ⟨w0, hw0, hb0, hC, hX, hY, hs0⟩ := box_cdd w (.slice A l.length cap) a b
  have Hw0 := Lib.hid hw0; clear hw0
  have HbW := Lib.hid hb0
  have HC := Lib.hid hC; clear hC
  have HX := Lib.hid hX; clear hX
  have HY := Lib.hid hY; clear hY
  have Hs0 := Lib.hid hs0; clear hs0
  have HL := Lib.hid (hc.2.2.1.to hb0)
  have HA := Lib.hid (DdlAt.to hin.2.2.2.2.2.2.2.2.2.2.2.2.1 hb0)
  have HB := Lib.hid (DdlAt.to hin2.2.2.2.2.2.2.2.2.2.2.2.2.1 hb0)
  have HT := Lib.hid (ht.below hb0 (Nat.le_refl _)); clear ht hb0
  have HLv := Lib.hid (lives9_any w0 HT.out)
  have HFc := Lib.hid (fun w' h => fewcat_any A cap l w' h hc.1 (fun t ht => (hc.2.2.2 t ht).2.2.2.2.1))
  have HFa := Lib.hid (fun w' h => few9_any a w' h hin.2.2.2.2.2.2.2.2.2.2.1 hs)
  have HFb := Lib.hid (fun w' h => few9_any b w' h hin2.2.2.2.2.2.2.2.2.2.2.1 hs2)
  have HWa := Lib.hid (fun h => WfD_of (d := a) h hin)
  have HWb := Lib.hid (fun h => WfD_of (d := b) h hin2)
  have HWc : Hid (fewCat l = true → l.length ≤ 10 ∧ ∀ t ∈ l, WfT t) := fun hf => by
    unfold fewCat at hf
    simp only [Bool.and_eq_true, decide_eq_true_eq, List.all_eq_true] at hf
    exact ⟨by omega, fun t ht => WfT_of (hf.2 t ht) (hc.2.2.2 t ht)⟩
  have Hcap := Lib.hid hc.2.1
  clear hin hin2 hs hs2 hc
  go_enter Tryz.func5, Tryz.ntmps5
  go_wp2_with fail
  try rw [Hw0.out]
  refine (HLv.out).mono ?_
  rintro e w1 ⟨rfl, hb⟩
  have Hb1 := Lib.hid hb
  clear hb
  try clear c0
  have c0 := (HC.out.below Hb1.out (by have := Hs0.out; omega)).one
  try clear x0 x1 x2 x3 x4 x5 x6 x7 x8 x9 x10 x11
  obtain ⟨x0, x1, x2, x3, x4, x5, x6, x7, x8, x9, x10, x11⟩ := (HX.out.below Hb1.out (by have := Hs0.out; omega)).ddl
  try clear y0 y1 y2 y3 y4 y5 y6 y7 y8 y9 y10 y11
  obtain ⟨y0, y1, y2, y3, y4, y5, y6, y7, y8, y9, y10, y11⟩ := (HY.out.below Hb1.out (by have := Hs0.out; omega)).ddl
  go_wp2_with fail
  refine (HFc.out w1 (HL.out.to Hb1.out)).mono ?_
  rintro e w2 ⟨rfl, hb⟩
  have Hb2 := Lib.hid (bthen Hb1.out hb)
  clear hb
  try clear c0
  have c0 := (HC.out.below Hb2.out (by have := Hs0.out; omega)).one
  try clear x0 x1 x2 x3 x4 x5 x6 x7 x8 x9 x10 x11
  obtain ⟨x0, x1, x2, x3, x4, x5, x6, x7, x8, x9, x10, x11⟩ := (HX.out.below Hb2.out (by have := Hs0.out; omega)).ddl
  try clear y0 y1 y2 y3 y4 y5 y6 y7 y8 y9 y10 y11
  obtain ⟨y0, y1, y2, y3, y4, y5, y6, y7, y8, y9, y10, y11⟩ := (HY.out.below Hb2.out (by have := Hs0.out; omega)).ddl
  cases hfc : fewCat l
  · go_wp2_with fail
    go_ret
    exact ⟨by rw []; rfl, bthen HbW.out Hb2.out⟩
  go_wp2_with fail
  refine (HFa.out w2 (HA.out.to Hb2.out)).mono ?_
  rintro e w3 ⟨rfl, hb⟩
  have Hb3 := Lib.hid (bthen Hb2.out hb)
  clear hb
  try clear c0
  have c0 := (HC.out.below Hb3.out (by have := Hs0.out; omega)).one
  try clear x0 x1 x2 x3 x4 x5 x6 x7 x8 x9 x10 x11
  obtain ⟨x0, x1, x2, x3, x4, x5, x6, x7, x8, x9, x10, x11⟩ := (HX.out.below Hb3.out (by have := Hs0.out; omega)).ddl
  try clear y0 y1 y2 y3 y4 y5 y6 y7 y8 y9 y10 y11
  obtain ⟨y0, y1, y2, y3, y4, y5, y6, y7, y8, y9, y10, y11⟩ := (HY.out.below Hb3.out (by have := Hs0.out; omega)).ddl
  cases hfa : fewD a.p
  · go_wp2_with fail
    go_ret
    exact ⟨by rw []; rfl, bthen HbW.out Hb3.out⟩
  go_wp2_with fail
  refine (HFb.out w3 (HB.out.to Hb3.out)).mono ?_
  rintro e w4 ⟨rfl, hb⟩
  have Hb4 := Lib.hid (bthen Hb3.out hb)
  clear hb
  try clear c0
  have c0 := (HC.out.below Hb4.out (by have := Hs0.out; omega)).one
  try clear x0 x1 x2 x3 x4 x5 x6 x7 x8 x9 x10 x11
  obtain ⟨x0, x1, x2, x3, x4, x5, x6, x7, x8, x9, x10, x11⟩ := (HX.out.below Hb4.out (by have := Hs0.out; omega)).ddl
  try clear y0 y1 y2 y3 y4 y5 y6 y7 y8 y9 y10 y11
  obtain ⟨y0, y1, y2, y3, y4, y5, y6, y7, y8, y9, y10, y11⟩ := (HY.out.below Hb4.out (by have := Hs0.out; omega)).ddl
  cases hfb : fewD b.p
  · go_wp2_with fail
    go_ret
    exact ⟨by rw []; rfl, bthen HbW.out Hb4.out⟩
  have Hwa := Lib.hid (HWa.out hfa)
  have Hwb := Lib.hid (HWb.out hfb)
  have Hwc := Lib.hid (HWc.out hfc)
  clear hfa hfb hfc HWa HWb HWc HFa HFb HFc HLv
  have HAx : Hid (∀ X, Below w0.heap.size w0 X → DdlAt X X.heap.size a) := fun X h => HA.out.to h
  have HBx : Hid (∀ X, Below w0.heap.size w0 X → DdlAt X X.heap.size b) := fun X h => HB.out.to h
  have m1 : Hid True := trivial
  have HNa := Lib.hid (fun w' h => dnames_any a w' h Hwa.out)
  have HNb := Lib.hid (fun w' h => dnames_any b w' h Hwb.out)
  go_upto_region 5 with fail
  go_cut [7, 8] (fun u v wx => ∃ A1 c1 l1 A2 c2 l2, u = .slice A1 (List.length l1) c1 ∧ v = .slice A2 (List.length l2) c2 ∧ l1.length ≤ 2 ∧ l2.length ≤ 2 ∧ Hid (NamesV a.p l1) ∧ Hid (NamesV b.p l2) ∧ Hid (StrsAt wx wx.heap.size A1 l1) ∧ Hid (StrsAt wx wx.heap.size A2 l2) ∧ Hid (Below w0.heap.size w0 wx))
  case first =>
    go_wp2_with fail
    go_region_with (first
      | (go_at_call 11; clear m1; refine (HNa.out _ (HAx.out _ (bthen Hb4.out (by go_grown)))).mono ?_; rintro e w5 ⟨A1, c1, l1, rfl, hl1, hn1, hs1, hb⟩; have Hd5 : Hid (Below w4.heap.size w4 w5) := bthen (by go_grown) hb; have Hb5 := Lib.hid (bthen Hb4.out Hd5.out); clear hb; clear c0 x0 x1 x2 x3 x4 x5 x6 x7 x8 x9 x10 x11 y0 y1 y2 y3 y4 y5 y6 y7 y8 y9 y10 y11; have c0 := (HC.out.below Hb5.out (by have := Hs0.out; omega)).one; obtain ⟨x0, x1, x2, x3, x4, x5, x6, x7, x8, x9, x10, x11⟩ := (HX.out.below Hb5.out (by have := Hs0.out; omega)).ddl; obtain ⟨y0, y1, y2, y3, y4, y5, y6, y7, y8, y9, y10, y11⟩ := (HY.out.below Hb5.out (by have := Hs0.out; omega)).ddl; have HS1 := Lib.hid hs1; have HN1 := Lib.hid hn1; clear hs1 hn1)
      | (go_at_call 11; refine (HNb.out _ (HBx.out _ (bthen Hb5.out (by go_grown)))).mono ?_; rintro e w6 ⟨A2, c2, l2, rfl, hl2, hn2, hs2, hb⟩; have Hd6 : Hid (Below w5.heap.size w5 w6) := bthen (by go_grown) hb; have Hb6 := Lib.hid (bthen Hb5.out Hd6.out); clear hb; clear c0 x0 x1 x2 x3 x4 x5 x6 x7 x8 x9 x10 x11 y0 y1 y2 y3 y4 y5 y6 y7 y8 y9 y10 y11; have c0 := (HC.out.below Hb6.out (by have := Hs0.out; omega)).one; obtain ⟨x0, x1, x2, x3, x4, x5, x6, x7, x8, x9, x10, x11⟩ := (HX.out.below Hb6.out (by have := Hs0.out; omega)).ddl; obtain ⟨y0, y1, y2, y3, y4, y5, y6, y7, y8, y9, y10, y11⟩ := (HY.out.below Hb6.out (by have := Hs0.out; omega)).ddl; have HS2 := Lib.hid hs2; have HN2 := Lib.hid hn2; clear hs2 hn2; have HS1b := Lib.hid (HS1.out.to Hd6.out))
      | fail)
    all_goals
      go_wp2_with fail
      go_meet
      exact ⟨A1, c1, l1, A2, c2, l2, rfl, rfl, hl1, hl2, HN1, HN2, HS1b, HS2, Hb6⟩
  case rest =>
    obtain ⟨A1, c1, l1, A2, c2, l2, rfl, rfl, hl1, hl2, HN1, HN2, HS1, HS2, Hbc⟩ := hcut
    clear c0 x0 x1 x2 x3 x4 x5 x6 x7 x8 x9 x10 x11 y0 y1 y2 y3 y4 y5 y6 y7 y8 y9 y10 y11 Hb1 Hb2 Hb3 Hb4 HNa HNb m1
    go_wp2_with fail
    go_loopw [9] (fun i wr => ∃ k : Nat, k ≤ l1.length ∧ i = .int .i64 k ∧ Hid (∀ j x, l1[j]? = some x → j < k → ∀ y ∈ l2, x ≠ y) ∧ Hid (Below wc.heap.size wc wr)) (fun i _ => l1.length - (intOf i).toNat)
    case atStart => exact ⟨0, by omega, rfl, fun j v _ h => absurd h (by omega), Below.refl _ _⟩
    case round =>
      obtain ⟨k, hk, rfl, hall, hb⟩ := hrel
      by_cases hlt : k < l1.length
      · obtain ⟨x, hx⟩ : ∃ x, l1[k]? = some x := ⟨l1[k], by simp [hlt]⟩
        have Hx := Lib.hid hx; clear hx
        go_wp2_with fail
        go_loopw [10] (fun i wq => ∃ n : Nat, n ≤ l2.length ∧ i = .int .i64 n ∧ Hid (∀ j y, l2[j]? = some y → j < n → x ≠ y) ∧ Hid (Below wc.heap.size wc wq)) (fun i _ => l2.length - (intOf i).toNat)
        case atStart => exact ⟨0, by omega, rfl, fun j v _ h => absurd h (by omega), hb.out⟩
        case round =>
          obtain ⟨n, hn, rfl, hall2, hb2⟩ := hrel
          by_cases hlt2 : n < l2.length
          · obtain ⟨y, hy⟩ : ∃ y, l2[n]? = some y := ⟨l2[n], by simp [hlt2]⟩
            have Hy := Lib.hid hy; clear hy
            obtain ⟨b1, o1, rfl, hB1, hc1⟩ := HS1.out (by omega)
            obtain ⟨b2, o2, rfl, hB2, hc2⟩ := HS2.out (by omega)
            have g1 : wr.cell? ⟨b1, o1 + k, none⟩ = some (.string x) := by
              have h := (hb2.out.cell (p := ⟨b1, o1 + k, none⟩) hB1).trans (hc1 k hlt)
              rw [h, (List.getElem?_eq_some_iff.1 Hx.out).2]
            have g2 : wr.cell? ⟨b2, o2 + n, none⟩ = some (.string y) := by
              have h := (hb2.out.cell (p := ⟨b2, o2 + n, none⟩) hB2).trans (hc2 n hlt2)
              rw [h, (List.getElem?_eq_some_iff.1 Hy.out).2]
            have i1 : (k : Int) < (l1.length : Int) := by omega
            have i2 : (n : Int) < (l2.length : Int) := by omega
            clear hc1 hc2
            cases he : (x.toList == y.toList)
            · have Hne : Hid (x ≠ y) := fun e => by rw [e] at he; simp at he
              go_wp2_with fail
              go_quiet (fail)
              go_wp2_with fail
              go_roundw
              case rel => exact ⟨n + 1, by omega, by go_num, fun j y' hj hjn => by
                by_cases e : j = n
                · subst e
                  rw [Hy.out] at hj; cases hj
                  exact Hne.out
                · exact hall2.out j y' hj (by omega), bthen hb2.out (((Drew.refl _).more _).below _)⟩
              case measure => simp [intOf]; omega
            · go_wp2_with fail
              go_quiet (fail)
              go_wp2_with fail
              go_ret
              exact ⟨rfl, bthen (bthen (bthen HbW.out Hbc.out) hb2.out) (((Drew.refl _).more _).below _)⟩
          · go_wp2_with fail
            go_roundw
            case rel => exact ⟨k + 1, by omega, by go_num, fun j x' hj hjk => by
              by_cases e : j = k
              · subst e
                rw [Hx.out] at hj; cases hj
                intro y hy
                obtain ⟨q, hq⟩ := List.mem_iff_getElem?.1 hy
                exact hall2.out q y hq (by have := (List.getElem?_eq_some_iff.1 hq).1; omega)
              · exact hall.out j x' hj (by omega), hb2.out⟩
            case measure => simp [intOf]; omega
      · have Hdis : Hid (∀ x ∈ l1, ∀ y ∈ l2, x ≠ y) := fun x hx => by
          obtain ⟨q, hq⟩ := List.mem_iff_getElem?.1 hx
          exact hall.out q x hq (by have := (List.getElem?_eq_some_iff.1 hq).1; omega)
        have Hb7 := Lib.hid (bthen Hbc.out hb.out)
        clear hall hb HS1 HS2
        try clear c0
        have c0 := (HC.out.below Hb7.out (by have := Hs0.out; omega)).one
        try clear x0 x1 x2 x3 x4 x5 x6 x7 x8 x9 x10 x11
        obtain ⟨x0, x1, x2, x3, x4, x5, x6, x7, x8, x9, x10, x11⟩ := (HX.out.below Hb7.out (by have := Hs0.out; omega)).ddl
        try clear y0 y1 y2 y3 y4 y5 y6 y7 y8 y9 y10 y11
        obtain ⟨y0, y1, y2, y3, y4, y5, y6, y7, y8, y9, y10, y11⟩ := (HY.out.below Hb7.out (by have := Hs0.out; omega)).ddl
        obtain ⟨hl10, hwl⟩ := Hwc.out
        have Hwl := Lib.hid hwl; clear hwl
        have HAa := Lib.hid (apply_any A cap l a 2000000 wr (HT.out.below Hb7.out (Nat.le_refl _)) (HL.out.to Hb7.out) Hwl.out (by omega) Hcap.out (HAx.out _ Hb7.out) Hwa.out)
        obtain ⟨ex, hex⟩ : ∃ ex, applyE (l.map Tb.p) a.p 2000000 = ex := ⟨_, rfl⟩
        obtain ⟨ey, hey⟩ : ∃ ey, applyE (l.map Tb.p) b.p 2000001 = ey := ⟨_, rfl⟩
        rw [hex] at HAa
        have Hex := Lib.hid hex; clear hex
        go_wp2_with fail
        refine HAa.out.mono ?_
        rintro e w8 ⟨Ax, cx, lx, rfl, hcx, hpx, hb⟩
        have Hb8 := Lib.hid (bthen Hb7.out hb)
        have Hpx := Lib.hid hpx
        clear hpx hb HAa
        try clear c0
        have c0 := (HC.out.below Hb8.out (by have := Hs0.out; omega)).one
        try clear x0 x1 x2 x3 x4 x5 x6 x7 x8 x9 x10 x11
        obtain ⟨x0, x1, x2, x3, x4, x5, x6, x7, x8, x9, x10, x11⟩ := (HX.out.below Hb8.out (by have := Hs0.out; omega)).ddl
        try clear y0 y1 y2 y3 y4 y5 y6 y7 y8 y9 y10 y11
        obtain ⟨y0, y1, y2, y3, y4, y5, y6, y7, y8, y9, y10, y11⟩ := (HY.out.below Hb8.out (by have := Hs0.out; omega)).ddl
        obtain ⟨w9, hw9, hb9, hxc, hs9⟩ := box_one' w8 (.slice Ax lx.length cx) 37
        have Hcx := Lib.hid (show CatAt w9 Ax cx lx from ⟨hcx.1.to hb9, hcx.2⟩)
        have Hw9 := Lib.hid hw9
        have Hb9 := Lib.hid (bthen Hb8.out hb9)
        have Hs9 := Lib.hid hs9
        have Hxc := Lib.hid hxc
        clear hw9 hb9 hs9 hxc hcx
        have HAb := Lib.hid (apply_any A cap l b 2000001 w9 (HT.out.below Hb9.out (Nat.le_refl _)) (HL.out.to Hb9.out) Hwl.out (by omega) Hcap.out (HBx.out _ Hb9.out) Hwb.out)
        rw [hey] at HAb
        have Hey := Lib.hid hey; clear hey
        have k0 := fun o => keep_alloc c0 o
        have ky0 := fun o => keep_alloc y0 o
        have ky1 := fun o => keep_alloc y1 o
        have ky2 := fun o => keep_alloc y2 o
        have ky3 := fun o => keep_alloc y3 o
        have ky4 := fun o => keep_alloc y4 o
        have ky5 := fun o => keep_alloc y5 o
        have ky6 := fun o => keep_alloc y6 o
        have ky7 := fun o => keep_alloc y7 o
        have ky8 := fun o => keep_alloc y8 o
        have ky9 := fun o => keep_alloc y9 o
        have ky10 := fun o => keep_alloc y10 o
        have ky11 := fun o => keep_alloc y11 o
        go_wp2_with fail
        rw [Hw9.out]
        refine HAb.out.mono ?_
        rintro e w10 ⟨Ay, cy, ly, rfl, hcy, hpy, hb⟩
        have Hd10 := Lib.hid hb
        have Hb10 := Lib.hid (bthen Hb9.out hb)
        have Hpy := Lib.hid hpy
        clear hpy hb HAb k0 ky0 ky1 ky2 ky3 ky4 ky5 ky6 ky7 ky8 ky9 ky10 ky11
        try clear c0
        have c0 := (HC.out.below Hb10.out (by have := Hs0.out; omega)).one
        try clear x0 x1 x2 x3 x4 x5 x6 x7 x8 x9 x10 x11
        obtain ⟨x0, x1, x2, x3, x4, x5, x6, x7, x8, x9, x10, x11⟩ := (HX.out.below Hb10.out (by have := Hs0.out; omega)).ddl
        try clear y0 y1 y2 y3 y4 y5 y6 y7 y8 y9 y10 y11
        obtain ⟨y0, y1, y2, y3, y4, y5, y6, y7, y8, y9, y10, y11⟩ := (HY.out.below Hb10.out (by have := Hs0.out; omega)).ddl
        obtain ⟨w11, hw11, hb11, hyc, hs11⟩ := box_one' w10 (.slice Ay ly.length cy) 37
        have Hcy := Lib.hid (show CatAt w11 Ay cy ly from ⟨hcy.1.to hb11, hcy.2⟩)
        have Hw11 := Lib.hid hw11
        have Hb11 := Lib.hid (bthen Hb10.out hb11)
        have Hd11 := Lib.hid (bthen Hd10.out hb11)
        have Hs11 := Lib.hid hs11
        have Hyc := Lib.hid hyc
        clear hw11 hb11 hs11 hyc hcy
        by_cases h1 : ex = 0
        case neg =>
          have q1 : (ex == 0) = false := by simpa using h1
          have q2 : (ex != 0) = true := by simpa using h1
          clear h1
          go_wp2_with fail
          go_ret
          exact ⟨rfl, bthen (bthen HbW.out Hb10.out) (by go_grown)⟩
        subst h1
        by_cases h2 : ey = 0
        case neg =>
          have q1 : (ey == 0) = false := by simpa using h2
          have q2 : (ey != 0) = true := by simpa using h2
          clear h2
          go_wp2_with fail
          go_ret
          exact ⟨rfl, bthen (bthen HbW.out Hb10.out) (by go_grown)⟩
        subst h2
        go_wp2_with fail
        rw [Hw11.out]
        have Hxc11 : Hid (w11.cell? ⟨w8.heap.size, 0, none⟩ = some (.slice Ax lx.length cx)) := (Hd11.out.cell (p := ⟨w8.heap.size, 0, none⟩) (by have := Hs9.out; show w8.heap.size < _; omega)).trans Hxc.out
        have Hcx11 : Hid (CatAt w11 Ax cx lx) := ⟨Hcx.out.1.to Hd11.out, Hcx.out.2⟩
        have H64 := Lib.hid (w64_to Hwl.out)
        obtain ⟨hlx, hwx, hcpx⟩ := wf_apply H64.out Hwa.out Hcx.out Hpx.out
        obtain ⟨hly, hwy, hcpy⟩ := wf_apply H64.out Hwb.out Hcy.out Hpy.out
        have Hwx := Lib.hid hwx; clear hwx
        have Hwy := Lib.hid hwy; clear hwy
        have HRx := Lib.hid ((rightL_iff lx).1 (right_of_apply H64.out Hpx.out Hex.out))
        have Hs8 : Hid (w.heap.size + 3 ≤ w8.heap.size ∧ w9.heap.size = w8.heap.size + 1 ∧ w9.heap.size ≤ w10.heap.size ∧ w11.heap.size = w10.heap.size + 1) := by
          have h1 := Hs0.out; have h2 := Hb8.out.size; have h3 := Hs9.out; have h4 := Hd10.out.size; have h5 := Hs11.out
          exact ⟨by omega, h3, h4, h5⟩
        clear c0 x0 x1 x2 x3 x4 x5 x6 x7 x8 x9 x10 x11 y0 y1 y2 y3 y4 y5 y6 y7 y8 y9 y10 y11 Hxc Hcx Hw9 Hw11
        go_loopw [15] (fun i wq => ∃ n : Nat, n ≤ l.length ∧ i = .int .i64 n ∧ Hid (Below w11.heap.size w11 wq)) (fun i _ => l.length - (intOf i).toNat)
        case atStart => exact ⟨0, by omega, rfl, Below.refl _ _⟩
        case round =>
          obtain ⟨n, hn, rfl, hbq⟩ := hrel
          have Hbq := Lib.hid (bthen Hb11.out hbq.out)
          have c0 : wr.cell? ⟨w.heap.size, 0, none⟩ = some (.slice A l.length cap) := (HC.out.below Hbq.out (by have := Hs0.out; omega)).one
          by_cases hlt : n < l.length
          · obtain ⟨t, ht⟩ : ∃ t, l[n]? = some t := ⟨l[n], by simp [hlt]⟩
            have Htm := Lib.hid (List.mem_of_getElem? ht)
            obtain ⟨b1, off, hAe, hbB, d0, d1, d2, d3, d4⟩ := (HL.out.to Hbq.out).get n t ht
            rw [hAe] at c0
            clear hAe ht
            obtain ⟨v0, hv0, hbv0, hT, hsv0⟩ := box_tab wr t
            have Hv0 := Lib.hid hv0; clear hv0
            have Hbv0 := Lib.hid (bthen hbq.out hbv0); clear hbv0
            have Hsv0 := Lib.hid hsv0; clear hsv0
            have HTt := Lib.hid hT; clear hT
            go_wp2_with fail
            rw [Hv0.out]
            clear c0 d0 d1 d2 d3 d4
            go_loopw [17, 18, 19] (fun u o i wz => ∃ (m q : Nat) (b : Bool), m ≤ lx.length ∧ i = .int .i64 m ∧ u = .int .i64 q ∧ o = .bool b ∧ Hid ((b = false ∧ ∀ j y, lx[j]? = some y → j < m → y.nm ≠ t.nm) ∨ (b = true ∧ ∃ y, lx[q]? = some y ∧ y.nm = t.nm)) ∧ Hid (Below v0.heap.size v0 wz)) (fun _ _ i _ => lx.length - (intOf i).toNat)
            case atStart => exact ⟨0, 0, false, by omega, rfl, rfl, rfl, .inl ⟨rfl, fun j y _ h => absurd h (by omega)⟩, Below.refl _ _⟩
            case round =>
              obtain ⟨m, q, bo, hm, rfl, rfl, rfl, hst, hbz⟩ := hrel
              have Hbz := Lib.hid (bthen Hbv0.out hbz.out)
              have Hbzz := Lib.hid (bthen Hb11.out Hbz.out)
              have e0 : wr.cell? ⟨w8.heap.size, 0, none⟩ = some (.slice Ax lx.length cx) := (Hbz.out.cell (p := ⟨w8.heap.size, 0, none⟩) (by have := Hs8.out; show w8.heap.size < _; omega)).trans Hxc11.out
              obtain ⟨t0, t1, t2, t3, t4⟩ := (HTt.out.below hbz.out (by have := Hsv0.out; omega)).tab
              by_cases hlm : m < lx.length
              · obtain ⟨y, hy⟩ : ∃ y, lx[m]? = some y := ⟨lx[m], by simp [hlm]⟩
                have Hy := Lib.hid hy
                obtain ⟨b2, off2, hAe, hbB2, f0, f1, f2, f3, f4⟩ := (Hcx11.out.1.to Hbz.out).get m y hy
                rw [hAe] at e0
                clear hAe hy
                cases he : (y.nm.toList == t.nm.toList)
                · have Hne : Hid (y.nm ≠ t.nm) := fun e => by rw [e] at he; simp at he
                  go_wp2_with fail
                  go_quiet (fail)
                  go_wp2_with fail
                  go_roundw
                  case rel => exact ⟨m + 1, q, bo, by omega, by go_num, rfl, rfl, by
                    rcases hst.out with ⟨h1, h2⟩ | h1
                    · refine .inl ⟨h1, fun j y' hj hjm => ?_⟩
                      by_cases e : j = m
                      · subst e
                        rw [Hy.out] at hj; cases hj
                        exact Hne.out
                      · exact h2 j y' hj (by omega)
                    · exact .inr h1, bthen hbz.out (((Drew.refl _).more _).below _)⟩
                  case measure => simp [intOf]; omega
                · have Heq : Hid (y.nm = t.nm) := toList_eqB.1 (beq_iff_eq.1 he)
                  go_wp2_with fail
                  go_quiet (fail)
                  go_wp2_with fail
                  go_roundw
                  case rel => exact ⟨m + 1, m, true, by omega, by go_num, rfl, rfl, .inr ⟨rfl, y, Hy.out, Heq.out⟩, bthen hbz.out (((Drew.refl _).more _).below _)⟩
                  case measure => simp [intOf]; omega
              · have x1 : wr.cell? ⟨w.heap.size + 1, 1, none⟩ = some (.string a.p.tb) := (HX.out.below Hbzz.out (by have := Hs0.out; omega)) 1 _ rfl
                cases he : (t.nm.toList == a.p.tb.toList)
                · have hne' : (t.nm.toList != a.p.tb.toList) = true := by rw [bne, he]; rfl
                  have hne : t.nm ≠ a.p.tb := fun e => by rw [e] at he; simp at he
                  have hin : t.p ∈ lx.map Tb.p := by
                    rw [Hpx.out]
                    unfold applyO
                    rw [if_pos Hex.out]
                    exact apply_stays Hex.out (List.mem_map.2 ⟨t, Htm.out, rfl⟩) hne
                  obtain ⟨y0, hy0, hyp⟩ := List.mem_map.1 hin
                  have hnm0 : y0.nm = t.nm := congrArg Tp.nm hyp
                  rcases hst.out with ⟨_, h2⟩ | ⟨rfl, y, hyq, hyn⟩
                  · obtain ⟨j, hj⟩ := List.mem_iff_getElem?.1 hy0
                    exact absurd hnm0 (h2 j y0 hj (by have := (List.getElem?_eq_some_iff.1 hj).1; omega))
                  have hyy : y.p = t.p := by
                    rw [← hyp]
                    exact tp_nm HRx.out.2.2 (List.mem_map.2 ⟨y, List.mem_of_getElem? hyq, rfl⟩) (List.mem_map.2 ⟨y0, hy0, rfl⟩) (hyn.trans hnm0.symm)
                  have HS := Lib.hid (fun w' (hw' : Below wr.heap.size wr w') => rsametab_any y t w' (((Hcx11.out.1.to Hbz.out).to hw').2 y (List.mem_of_getElem? hyq)) (((HL.out.to Hbzz.out).to hw').2 t Htm.out) (Hwx.out y (List.mem_of_getElem? hyq)).2.1 (Hwl.out t Htm.out).2.1)
                  rw [sameT_p hyy] at HS
                  have hql := (List.getElem?_eq_some_iff.1 hyq).1
                  obtain ⟨b2, off2, hAe, hbB2, f0, f1, f2, f3, f4⟩ := (Hcx11.out.1.to Hbz.out).get q y hyq
                  rw [hAe] at e0
                  clear hAe hyq hyn hyy hyp hnm0 hy0 hin hne hst
                  go_wp2_with fail
                  have hne : Nonempty (BelowBy wr.heap.size wr) := ⟨⟨wr, Below.refl _ _⟩⟩
                  have Kx1 := keepP x1
                  have Ke0 := keepP e0
                  have Kt0 := keepP t0
                  have Kt1 := keepP t1
                  have Kt2 := keepP t2
                  have Kt3 := keepP t3
                  have Kt4 := keepP t4
                  have Kf0 := keepP f0
                  have Kf1 := keepP f1
                  have Kf2 := keepP f2
                  have Kf3 := keepP f3
                  have Kf4 := keepP f4
                  have hq0 : (0 : Int) ≤ (q : Int) := by omega
                  have hqI : (q : Int) < (lx.length : Int) := by omega
                  refine wp_region_below wr.heap.size (by kernel_rfl) (by kernel_rfl) ?_
                  repeat (
                    with_reducible refine wpQuiet_step (fun K hK => ?_)
                    go_simp
                    refine hK _ ?_
                    clear hK K)
                  with_reducible refine wpQuiet_step (fun K hK => ?_)
                  go_simp
                  apply Exists.intro
                  refine ⟨fun p => ?_, hK _ ?_⟩
                  exact (HS.out _ p.h).mono fun e w5 ⟨he, hb⟩ => ⟨he, p.step (Nat.le_refl _) hb⟩
                  clear hK K
                  repeat (
                    with_reducible refine wpQuiet_step (fun K hK => ?_)
                    go_simp
                    refine hK _ ?_
                    clear hK K)
                  refine wpQuiet_nil ?_
                  rintro _ ⟨p, rfl⟩
                  go_wp2_with fail
                  go_roundw
                  case rel => exact ⟨n + 1, by omega, by go_num, bthen Hbz.out p.h⟩
                  case measure => simp [intOf]; omega
                · have hne' : (t.nm.toList != a.p.tb.toList) = false := by rw [bne, he]; rfl
                  clear hst
                  go_wp2_with fail
                  have hne : Nonempty (BelowBy wr.heap.size wr) := ⟨⟨wr, Below.refl _ _⟩⟩
                  have Kx1 := keepP x1
                  have Ke0 := keepP e0
                  have Kt0 := keepP t0
                  have Kt1 := keepP t1
                  have Kt2 := keepP t2
                  have Kt3 := keepP t3
                  have Kt4 := keepP t4
                  refine wp_region_below wr.heap.size (by kernel_rfl) (by kernel_rfl) ?_
                  repeat (
                    with_reducible refine wpQuiet_step (fun K hK => ?_)
                    go_simp
                    refine hK _ ?_
                    clear hK K)
                  refine wpQuiet_nil ?_
                  rintro _ ⟨p, rfl⟩
                  go_wp2_with fail
                  go_roundw
                  case rel => exact ⟨n + 1, by omega, by go_num, bthen Hbz.out p.h⟩
                  case measure => simp [intOf]; omega
          · have Hn11 := Lib.hid hbq.out
            have HAx2 := Lib.hid (apply_any Ax cx lx b 2000001 wr (HT.out.below Hbq.out (Nat.le_refl _)) (Hcx11.out.1.to hbq.out) Hwx.out (by omega) hcpx (HBx.out _ Hbq.out) Hwb.out)
            have HLx : Hid (lx.map Tb.p = applyR (l.map Tb.p) a.p 2000000) := by show _ = _; rw [Hpx.out]; unfold applyO; rw [if_pos Hex.out]
            have HLy : Hid (ly.map Tb.p = applyR (l.map Tb.p) b.p 2000001) := by show _ = _; rw [Hpy.out]; unfold applyO; rw [if_pos Hey.out]
            obtain ⟨exy, hexy⟩ : ∃ e, applyE (lx.map Tb.p) b.p 2000001 = e := ⟨_, rfl⟩
            obtain ⟨eyx, heyx⟩ : ∃ e, applyE (ly.map Tb.p) a.p 2000000 = e := ⟨_, rfl⟩
            rw [hexy] at HAx2
            have Hexy := Lib.hid hexy; clear hexy
            have e0 : wr.cell? ⟨w8.heap.size, 0, none⟩ = some (.slice Ax lx.length cx) := (hbq.out.cell (p := ⟨w8.heap.size, 0, none⟩) (by have := Hs8.out; show w8.heap.size < _; omega)).trans Hxc11.out
            have Hb12 := Lib.hid Hbq.out
            try clear y0 y1 y2 y3 y4 y5 y6 y7 y8 y9 y10 y11
            obtain ⟨y0, y1, y2, y3, y4, y5, y6, y7, y8, y9, y10, y11⟩ := (HY.out.below Hb12.out (by have := Hs0.out; omega)).ddl
            go_wp2_with fail
            refine HAx2.out.mono ?_
            rintro e w13 ⟨Axy, cxy, lxy, rfl, hcxy, hpxy, hb⟩
            have Hd13 := Lib.hid (bthen Hn11.out hb)
            have Hb13 := Lib.hid (bthen Hb12.out hb)
            have Hcxy := Lib.hid hcxy
            have Hpxy := Lib.hid hpxy
            clear hpxy hb HAx2 hcxy e0 c0 y0 y1 y2 y3 y4 y5 y6 y7 y8 y9 y10 y11
            try clear x0 x1 x2 x3 x4 x5 x6 x7 x8 x9 x10 x11
            obtain ⟨x0, x1, x2, x3, x4, x5, x6, x7, x8, x9, x10, x11⟩ := (HX.out.below Hb13.out (by have := Hs0.out; omega)).ddl
            have g0 : w13.cell? ⟨w10.heap.size, 0, none⟩ = some (.slice Ay ly.length cy) := (Hd13.out.cell (p := ⟨w10.heap.size, 0, none⟩) (by have := Hs8.out; show w10.heap.size < _; omega)).trans Hyc.out
            obtain ⟨w14, hw14, hb14, hxyc, hs14⟩ := box_one' w13 (.slice Axy lxy.length cxy) 37
            have Hw14 := Lib.hid hw14; clear hw14
            have Hd14 := Lib.hid (bthen Hd13.out hb14)
            have Hb14 := Lib.hid (bthen Hb13.out hb14)
            have Hcxy14 := Lib.hid (show CatAt w14 Axy cxy lxy from ⟨Hcxy.out.1.to hb14, Hcxy.out.2⟩)
            have Hs14 := Lib.hid hs14
            have Hxyc := Lib.hid hxyc
            clear hb14 hs14 hxyc
            have kg0 := fun o => keep_alloc g0 o
            have kx0 := fun o => keep_alloc x0 o
            have kx1 := fun o => keep_alloc x1 o
            have kx2 := fun o => keep_alloc x2 o
            have kx3 := fun o => keep_alloc x3 o
            have kx4 := fun o => keep_alloc x4 o
            have kx5 := fun o => keep_alloc x5 o
            have kx6 := fun o => keep_alloc x6 o
            have kx7 := fun o => keep_alloc x7 o
            have kx8 := fun o => keep_alloc x8 o
            have kx9 := fun o => keep_alloc x9 o
            have kx10 := fun o => keep_alloc x10 o
            have kx11 := fun o => keep_alloc x11 o
            have HAy2 := Lib.hid (apply_any Ay cy ly a 2000000 w14 (HT.out.below Hb14.out (Nat.le_refl _)) (Hcy.out.1.to Hd14.out) Hwy.out (by omega) hcpy (HAx.out _ Hb14.out) Hwa.out)
            rw [heyx] at HAy2
            have Heyx := Lib.hid heyx; clear heyx
            go_wp2_with fail
            rw [Hw14.out]
            refine HAy2.out.mono ?_
            rintro e w15 ⟨Ayx, cyx, lyx, rfl, hcyx, hpyx, hb⟩
            have Hd15 := Lib.hid hb
            have Hb15 := Lib.hid (bthen Hb14.out hb)
            have Hpyx := Lib.hid hpyx
            clear hpyx hb HAy2 g0 kg0 x0 x1 x2 x3 x4 x5 x6 x7 x8 x9 x10 x11 kx0 kx1 kx2 kx3 kx4 kx5 kx6 kx7 kx8 kx9 kx10 kx11
            obtain ⟨w16, hw16, hb16, hyxc, hs16⟩ := box_one' w15 (.slice Ayx lyx.length cyx) 37
            have Hw16 := Lib.hid hw16; clear hw16
            have Hcyx := Lib.hid (show CatAt w16 Ayx cyx lyx from ⟨hcyx.1.to hb16, hcyx.2⟩)
            have Hcxy16 := Lib.hid (show TabsAt w16 w16.heap.size Axy lxy from Hcxy14.out.1.to (bthen Hd15.out hb16))
            have Hb16 := Lib.hid (bthen Hb15.out hb16)
            have z1 : w16.cell? ⟨w13.heap.size, 0, none⟩ = some (.slice Axy lxy.length cxy) := ((bthen Hd15.out hb16).cell (p := ⟨w13.heap.size, 0, none⟩) (by have := Hs14.out; show w13.heap.size < _; omega)).trans Hxyc.out
            have z2 : w16.cell? ⟨w15.heap.size, 0, none⟩ = some (.slice Ayx lyx.length cyx) := hyxc
            clear hb16 hs16 hyxc hcyx
            by_cases h1 : exy = 0
            case neg =>
              have q1 : (exy == 0) = false := by simpa using h1
              have q2 : (exy != 0) = true := by simpa using h1
              clear h1
              have kz1 : (w15.alloc (.cells #[.slice Ayx lyx.length cyx] 37)).cell? ⟨w13.heap.size, 0, none⟩ = some (.slice Axy lxy.length cxy) := by rw [Hw16.out]; exact z1
              go_wp2_with fail
              rw [Hw16.out]
              go_ret
              exact ⟨rfl, bthen HbW.out Hb16.out⟩
            subst h1
            by_cases h2 : eyx = 0
            case neg =>
              have q1 : (eyx == 0) = false := by simpa using h2
              have q2 : (eyx != 0) = true := by simpa using h2
              clear h2
              go_wp2_with fail
              rw [Hw16.out]
              go_ret
              exact ⟨rfl, bthen HbW.out Hb16.out⟩
            subst h2
            have HSm : Hid (lxy.map Tb.p = lyx.map Tb.p) := by
              have e1 := Hexy.out; have e2 := Heyx.out
              have p1 := Hpxy.out; have p2 := Hpyx.out
              unfold applyO at p1 p2
              rw [if_pos e1] at p1
              rw [if_pos e2] at p2
              rw [HLx.out] at e1 p1
              rw [HLy.out] at e2 p2
              show _ = _
              rw [p1, p2]
              refine apply_comm H64.out (w64_apply H64.out Hwa.out Hex.out) (w64_apply H64.out Hwb.out Hey.out) (fun s h1 h2 => ?_) Hex.out Hey.out e1 e2
              exact Hdis.out s (touches_mem HN1.out (applyE_0 Hex.out).2.1 h1) s (touches_mem HN2.out (applyE_0 Hey.out).2.1 h2) rfl
            obtain ⟨hlxy, hwxy, _⟩ := wf_apply (fun t ht => by rw [HLx.out] at ht; exact w64_apply H64.out Hwa.out Hex.out t ht) Hwb.out Hcxy14.out Hpxy.out
            obtain ⟨hlyx, hwyx, _⟩ := wf_apply (fun t ht => by rw [HLy.out] at ht; exact w64_apply H64.out Hwb.out Hey.out t ht) Hwa.out Hcyx.out Hpyx.out
            have HS := Lib.hid (fun w' (hw' : Below w16.heap.size w16 w') => rsamecat_any Axy Ayx cxy cyx lxy lyx w' (Hcxy16.out.to hw') (Hcyx.out.1.to hw') (by omega) (by omega) hwxy hwyx)
            rw [pair_p HSm.out] at HS
            clear hwxy hwyx
            have kz1 : (w15.alloc (.cells #[.slice Ayx lyx.length cyx] 37)).cell? ⟨w13.heap.size, 0, none⟩ = some (.slice Axy lxy.length cxy) := by rw [Hw16.out]; exact z1
            go_wp2_with fail
            rw [Hw16.out]
            refine (HS.out w16 (Below.refl _ _)).mono ?_
            rintro e w17 ⟨rfl, hb⟩
            have Hb17 := Lib.hid (bthen Hb16.out hb); clear hb
            go_wp2_with fail
            go_ret
            exact ⟨rfl, bthen HbW.out Hb17.out⟩
theorem walk (A : Option Addr) (cap : Nat) (l : List Tb) (a b : Db) (w : World) (hc : TabsIn w A cap l) (hin : InD w a) (hs : SmD a.p) (hin2 : InD w b) (hs2 : SmD b.p) (hL : laidMetH Tryz.prog Rows.ddlApartRow.laid w) :
    Calls Tryz.prog 5 #[.agg #[.slice A l.length cap], DV a, DV b] w fun e w' => e = .returned (.bool true) ∧ Below w.heap.size w w' :=
  walk_t A cap l a b w hc hin hs hin2 hs2 (utab_of (by kernel_rfl) (by repeat (first | exact List.Mem.head _ | apply List.Mem.tail)) (by repeat (first | exact List.Mem.head _ | apply List.Mem.tail)) hL)
theorem own : ownKnob Tryz.prog.godebug = none := by kernel_rfl
theorem laidOut : laidOutB Tryz.prog = true := by kernel_rfl
theorem door_met (os : Os) (args : Array Value) : laidMetH Tryz.prog Rows.ddlApartRow.laid ((World.doorLaid Tryz.prog 19 os).forCall (fun _ _ => 0) ⟨#[], args, []⟩).memory :=
  laidMetH_of_parts3 (fuel := 8) (laidMet_of_run' 8 (by kernel_rfl) (by kernel_rfl)) (by kernel_rfl) (by kernel_rfl)
set_option maxRecDepth 100000 in
theorem lifted (os : Os) (started : os.Started) (H : Type) (enc : TypeId × Value → H) :
    ReturnsInHanded {} Tryz.checked os 5 .any (fun w args => (Rows.ddlApartSpec.pre enc Tryz.prog Tryz.f5 [] false w args ∧ laidMetH Tryz.prog Rows.ddlApartRow.laid w) ∧ sizedMet enc Tryz.prog Tryz.f5 (OpenSpec.ofChange Rows.ddlApartSpec) false w args)
      (Rows.ddlApartSpec.post enc Tryz.prog Tryz.f5 false true false false) := by
  refine returnsInHanded_of_change_and (C := Tryz.checked) (X := fun w _ => laidMetH Tryz.prog Rows.ddlApartRow.laid w) (fun _ _ _ hh h => h.of_heap hh) own started (by kernel_rfl) Tryz.func5
    (ChangeSpec.witness_shaped (enc := enc) (C := Tryz.checked) (os := os) (X := fun w _ => laidMetH Tryz.prog Rows.ddlApartRow.laid w) false (World.doorLaid Tryz.prog 19 os) #[.agg #[.slice none 0 0], .agg #[.int .i64 0, .string ByteArray.empty, .string ByteArray.empty, .string ByteArray.empty, .string ByteArray.empty, .int .i64 0, .int .i64 0, .bool false, .int .i64 0, .int .i64 0, .string ByteArray.empty, .slice none 0 0], .agg #[.int .i64 0, .string ByteArray.empty, .string ByteArray.empty, .string ByteArray.empty, .string ByteArray.empty, .int .i64 0, .int .i64 0, .bool false, .int .i64 0, .int .i64 0, .string ByteArray.empty, .slice none 0 0]] 8 rfl (World.shaped_of_RefB (by kernel_rfl) (by kernel_rfl)) (by kernel_rfl) (by kernel_rfl) (by kernel_rfl) (door_met os _)) ?_
  intro W base args ds gs before hval0 hW hcnd hz0 hL _
  have hval : ∀ (j : Nat) t v, Tryz.f5.params[j]? = some t → args[j]? = some v → Value.okWide Tryz.prog W .any base t v := hval0
  have hz1 := sized_each hz0
  have hW' := hW
  obtain ⟨p, q, hA0, hV, rfl, hfz, hnd⟩ := hW
  have hA : DataW.TrodAll enc Tryz.prog W 0 (fun _ => true) true Tryz.f5.params.toList args.toList ds p := hA0
  rw [Tryz.params5] at hA hval hz1
  obtain ⟨v0, vs0, d0, ds0, p0, q0, hargs, rfl, rfl, h0, r0⟩ := trodAll_cons hA
  obtain ⟨v1, vs1, d1, ds1, p1, q1, rfl, rfl, rfl, h1, r1⟩ := trodAll_cons r0
  obtain ⟨v2, vs2, d2, ds2, p2, q2, rfl, rfl, rfl, h2, r2⟩ := trodAll_cons r1
  obtain ⟨rfl, rfl, rfl⟩ := trodAll_nil r2
  obtain rfl : args = #[v0, v1, v2] := by cases args; simp_all
  obtain ⟨rfl, rfl⟩ := trodVars_none hV
  have k0 := h0
  have lt0 : ∀ x ∈ p0, x.block < W.heap.size := by obtain ⟨m, hm⟩ := k0; exact DataW.trod_lt m _ _ _ hm
  obtain ⟨a0, cap0, l0, rfl, w0⟩ := openCat (hval 0 37 v0 rfl rfl) h0
  have k1 := h1
  have lt1 : ∀ x ∈ p1, x.block < W.heap.size := by obtain ⟨m, hm⟩ := k1; exact DataW.trod_lt m _ _ _ hm
  obtain ⟨t1, rfl, w1, z1⟩ := openDDLW (hval 1 28 v1 rfl rfl) h1 (hz1 1 28 d1 rfl rfl)
  have k2 := h2
  have lt2 : ∀ x ∈ p2, x.block < W.heap.size := by obtain ⟨m, hm⟩ := k2; exact DataW.trod_lt m _ _ _ hm
  obtain ⟨t2, rfl, w2, z2⟩ := openDDLW (hval 2 28 v2 rfl rfl) h2 (hz1 2 28 d2 rfl rfl)
  clear hA0 hval0
  refine (walk a0 cap0 l0 t1 t2 W w0 w1 z1 w2 z2 hL).mono fun e W' ⟨he, bel⟩ => ?_
  subst he
  exact ⟨_, rfl, _, _, _, [], _, [], hW', trodAll_mk1 (shut_bool Tryz.underlying4 _), (trodAll_cons_mk (Below.trod laidOut (by kernel_rfl) (of_decide_eq_true (by kernel_rfl)) k0 bel lt0) (trodAll_cons_mk (Below.trod laidOut (by kernel_rfl) (of_decide_eq_true (by kernel_rfl)) k1 bel lt1) (trodAll_cons_mk (Below.trod laidOut (by kernel_rfl) (of_decide_eq_true (by kernel_rfl)) k2 bel lt2) trodAll_mk0))), rfl, bel.frame _, fun h => by cases h⟩

theorem over : Rows.DdlApartSaid :=
  OpenClaim.holds_of_wide 5 Tryz.f5 rfl rfl rfl rfl rfl rfl rfl ⟨rfl, rfl, rfl, rfl, rfl⟩ rfl rfl rfl rfl rfl (by kernel_rfl) Tryz.func5 (by kernel_rfl)
    (of_decide_eq_true (by kernel_rfl)) (by unfold Func.isWrapper; first | (rw [if_pos (by decide +kernel)]; kernel_rfl) | (rw [if_neg (by decide +kernel)]; exact ⟨rfl, rfl⟩))
    (fun os started H enc _ => lifted os started H enc)

/-- the given statement: the card -/
theorem proved : Rows.DdlApartCardSaid :=
  Claim7.holds_tied_plain_at .later [] [.data, .data] true (true, "3ed9fbc85af2108e49d0eebe6137ce6d3b01cba58b31598a00b40f8eb211d8b9") false
    over (fun _ h => by cases h) (by kernel_rfl) (fun _ h => by cases h) ddlApart_row_tie rfl ⟨rfl, rfl⟩ (by kernel_rfl) rfl
    (fun f fn hf hfn => by
      obtain rfl : f = 5 := Option.some.inj ((show Tryz.prog.funcNamed "haulage/haulagelaw09.DdlApart" = some 5 by kernel_rfl).symm.trans hf) |>.symm
      obtain rfl : fn = Tryz.f5 := (Option.some.inj (Tryz.func5.symm.trans hfn)).symm
      exact ⟨by kernel_rfl, fun j t ht => by
        rw [Tryz.params5] at ht
        have hm : t ∈ [37, 28, 28] := by simpa using Array.mem_of_getElem? ht
        have hall : ([37, 28, 28].all fun u => !Tryz.prog.wantsStandIn u) = true := by kernel_rfl
        exact (show Tryz.prog.wantsStandIn t = false by simpa using List.all_eq_true.1 hall t hm)⟩)
    (by kernel_rfl)
#print axioms proved
end Go.Proofs.YtlbdbaafmdikcaaGreatDoor.ddlApart
