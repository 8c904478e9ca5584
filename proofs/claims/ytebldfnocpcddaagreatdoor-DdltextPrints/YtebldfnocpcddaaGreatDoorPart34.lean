/-
  Texts that the proof needs, one behind the other: DtxLivesM, DtxLivesC, DtxPWC, DtxPLC, DtxPSC.
-/
import Derived.Test.YtebldfnocpcddaaGreatDoorPart32
import Derived.Test.YtebldfnocpcddaaGreatDoorPart12
import Derived.Test.YtebldfnocpcddaaGreatDoorPart21
import Derived.Test.YtebldfnocpcddaaGreatDoorPart24
import Derived.Test.YtebldfnocpcddaaGreatDoorPart25
import Derived.Test.YtebldfnocpcddaaGreatDoorPart8

/-
  The examples of layer 10's page, in plain words.
-/
namespace Go.Proofs.YtebldfnocpcddaaGreatDoor
open Go.RowKit

/-- the change of the page's example -/
def exA : Dp := ⟨4, strB [116], strB [98], strB [], strB [], 3, 5, false, 3, 0, strB [120], []⟩
def exS : ByteArray := ⟨#[97, 100, 100, 32, 116, 32, 98, 32, 116, 101, 120, 116, 40, 53, 41, 32, 100, 101, 102, 97, 117, 108, 116, 32, 34, 120, 34]⟩
def exT : ByteArray := ⟨#[97, 100, 100, 32, 116, 32, 98, 32, 116, 101, 120, 116, 40, 48, 41]⟩
theorem dz5 : dz 5 = [53] := by
  rw [dz_pos (by decide)]
  exact dn_lt (n := 5) (by decide)
theorem qtx : qt [120] = [34, 120, 34] := by decide
theorem exA_text : dtx [32] exA [] = bs exS := by
  have e : dtx [32] exA [] = opT 4 ++ ([32] ++ (bs (strB [116]) ++ ([32] ++ (bs (strB [98]) ++ ([32] ++ ((nmT ++ (40 :: (dz 5 ++ [41]))) ++ ([] ++ (([32] ++ (defT ++ ([32] ++ qt (bs (strB [120]))))) ++ [])))))))) := rfl
  rw [e, dz5, show bs (strB [120]) = [120] from rfl, qtx]; rfl
theorem sg_x : (sg [120]).isSome = true := by
  rw [sg_some (n := 120) (k := 1) (by decide +kernel)]
  show ((sg []).map _).isSome = true
  rw [sg_nil]; rfl
theorem exA_can : canD exA = true := by
  have h1 : plainD exA = true := by unfold plainD exA; exact Bool.and_eq_true_iff.2 ⟨empS_iff.2 rfl, Bool.and_eq_true_iff.2 ⟨empS_iff.2 rfl, rfl⟩⟩
  have h2 : rightV 3 0 (bs (strB [120])) = true := by
    show rightV 3 0 [120] = true
    unfold rightV
    rw [if_neg (by decide), if_neg (by decide), if_neg (by decide), if_pos rfl, sg_x]; rfl
  unfold canD
  rw [h1]
  show (true && (rightN [116] && (rightN [98] && (rightT 3 5 && rightV 3 0 (bs (strB [120])))))) = true
  rw [h2]; rfl
theorem exS_res : PRes (bs exS) exA 27 0 := by
  refine .inl ⟨rfl, ?_, rfl⟩
  rw [← exA_text]
  exact pAll_ok (b0 := []) sp32 (by simp) sp_nil sp_nil exA_can ⟨by decide, by decide⟩ (fun c hc => by cases hc)
theorem exT_res : PRes (bs exT) (dp0 0 []) 8 10 := by
  refine .inr ⟨by decide, rfl, [116, 101, 120, 116, 40, 48, 41], ?_, by decide, rfl⟩
  have h0 : opW (wd (bl (bs exT))) = 4 := by decide
  have h1 : pName ((bl (bs exT)).drop (wd (bl (bs exT))).length) = .ok ([116], [32, 98, 32, 116, 101, 120, 116, 40, 48, 41]) := by rfl
  have h2 : pName [32, 98, 32, 116, 101, 120, 116, 40, 48, 41] = .ok ([98], [32, 116, 101, 120, 116, 40, 48, 41]) := by rfl
  have h3 : pKind [32, 116, 101, 120, 116, 40, 48, 41] = .error ([116, 101, 120, 116, 40, 48, 41], 10) := by rfl
  have h4 : pCol [32, 98, 32, 116, 101, 120, 116, 40, 48, 41] = .error ([116, 101, 120, 116, 40, 48, 41], 10) := by
    unfold pCol
    rw [h2]
    show (pKind [32, 116, 101, 120, 116, 40, 48, 41]).bind (fun t => (pDef (pNull t.2).2).bind fun v => .ok ((⟨0, strB [98], t.1.1, t.1.2, (pNull t.2).1, v.1.1, v.1.2.1, strB v.1.2.2⟩ : Cb), v.2)) = _
    rw [h3]; rfl
  have h5 : pChange (bs exT) = .error ([116, 101, 120, 116, 40, 48, 41], 10) := by
    unfold pChange
    rw [h0, if_neg (by decide), h1]
    show pRest 4 [116] [32, 98, 32, 116, 101, 120, 116, 40, 48, 41] = _
    rw [pRest_4, h4]; rfl
  unfold pAll
  rw [h5]; rfl
end Go.Proofs.YtebldfnocpcddaaGreatDoor

/-
  Contract of law10's lives.
-/
namespace Go.Proofs.YtebldfnocpcddaaGreatDoor
open Go.RowKit

def exV (A : Option Addr) (n cap : Nat) : Value := .agg #[.int .i64 4, .string ⟨#[116]⟩, .string ⟨#[98]⟩, .string ⟨#[]⟩, .string ⟨#[]⟩, .int .i64 3, .int .i64 5, .bool false, .int .i64 3, .int .i64 0, .string ⟨#[120]⟩, .slice A n cap]
theorem ex1_any (w : World) (hT : Tbs w) : Calls Tryz.prog 13 #[.string ⟨#[97, 100, 100, 32, 116, 32, 98, 32, 116, 101, 120, 116, 40, 53, 41, 32, 100, 101, 102, 97, 117, 108, 116, 32, 34, 120, 34]⟩] w fun en w' =>
    (∃ A n cap, en = .returned (.tuple #[.agg #[.int .i64 4, .string ⟨#[116]⟩, .string ⟨#[98]⟩, .string ⟨#[]⟩, .string ⟨#[]⟩, .int .i64 3, .int .i64 5, .bool false, .int .i64 3, .int .i64 0, .string ⟨#[120]⟩, .slice A n cap], .int .i64 27, .int .i64 0])) ∧ Below w.heap.size w w' := by
  refine (qparse_any exS w hT (by decide)).mono ?_
  rintro en w' ⟨hb, ⟨p, A, cap⟩, a, e, rfl, _, _, hr⟩
  obtain ⟨h1, h2, h3⟩ := hr.unique exS_res
  have h1 : p = exA := h1
  subst h1 h2 h3
  exact ⟨⟨A, 0, cap, rfl⟩, hb⟩
theorem ex2_any (w : World) (hT : Tbs w) : Calls Tryz.prog 13 #[.string ⟨#[97, 100, 100, 32, 116, 32, 98, 32, 116, 101, 120, 116, 40, 48, 41]⟩] w fun en w' =>
    (∃ A n cap, en = .returned (.tuple #[.agg #[.int .i64 0, .string ⟨#[]⟩, .string ⟨#[]⟩, .string ⟨#[]⟩, .string ⟨#[]⟩, .int .i64 0, .int .i64 0, .bool false, .int .i64 0, .int .i64 0, .string ⟨#[]⟩, .slice A n cap], .int .i64 8, .int .i64 10])) ∧ Below w.heap.size w w' := by
  refine (qparse_any exT w hT (by decide)).mono ?_
  rintro en w' ⟨hb, ⟨p, A, cap⟩, a, e, rfl, _, _, hr⟩
  obtain ⟨h1, h2, h3⟩ := hr.unique exT_res
  have h1 : p = dp0 0 [] := h1
  subst h1 h2 h3
  exact ⟨⟨A, 0, cap, rfl⟩, hb⟩
set_option maxRecDepth 100000 in
set_option maxHeartbeats 1600000 in
theorem lives10_any (w : World) (hT : Tbs w) : Calls Tryz.prog 7 #[] w fun e w' => e = .returned (.bool true) ∧ Below w.heap.size w w' := by
  have HT := Lib.hid hT; clear hT
  go_enter Tryz.func7, Tryz.ntmps7
  go_wp2_with fail
  refine (ex1_any _ HT.out).mono ?_
  rintro e w1 ⟨⟨A, n, cap, rfl⟩, hb1⟩
  obtain ⟨w2, hw2⟩ : ∃ w2, w1.alloc (.cells #[.int .i64 4, .string ⟨#[116]⟩, .string ⟨#[98]⟩, .string ⟨#[]⟩, .string ⟨#[]⟩, .int .i64 3, .int .i64 5, .bool false, .int .i64 3, .int .i64 0, .string ⟨#[120]⟩, .slice A n cap] 28) = w2 := ⟨_, rfl⟩
  have hb2 : Below w1.heap.size w1 w2 := by rw [← hw2]; exact (Below.refl _ _).alloc (Nat.le_refl _) _
  obtain ⟨J, hJ⟩ : ∃ J, w1.heap.size = J := ⟨_, rfl⟩
  have HK : Hid (Bk 28 w2 J [.int .i64 4, .string ⟨#[116]⟩, .string ⟨#[98]⟩, .string ⟨#[]⟩, .string ⟨#[]⟩, .int .i64 3, .int .i64 5, .bool false, .int .i64 3, .int .i64 0, .string ⟨#[120]⟩, .slice A n cap]) := by rw [← hw2, ← hJ]; exact Bk.new w1 [.int .i64 4, .string ⟨#[116]⟩, .string ⟨#[98]⟩, .string ⟨#[]⟩, .string ⟨#[]⟩, .int .i64 3, .int .i64 5, .bool false, .int .i64 3, .int .i64 0, .string ⟨#[120]⟩, .slice A n cap] _
  have HT2 := Lib.hid ((HT.out.below hb1).below hb2)
  have HB2 := Lib.hid (bthen hb1 hb2)
  have Hw2 := Lib.hid hw2; have HJ := Lib.hid hJ; clear hw2 hb2 hb1 hJ
  go_wp2_with fail
  rw [Hw2.out]
  try rw [HJ.out]
  refine (ex2_any _ HT2.out).mono ?_
  rintro e w3 ⟨⟨A2, n2, cap2, rfl⟩, hb3⟩
  have HK3 := HK.out.below hb3
  obtain ⟨w4, hw4⟩ : ∃ w4, w3.alloc (.cells #[.int .i64 0, .string ⟨#[]⟩, .string ⟨#[]⟩, .string ⟨#[]⟩, .string ⟨#[]⟩, .int .i64 0, .int .i64 0, .bool false, .int .i64 0, .int .i64 0, .string ⟨#[]⟩, .slice A2 n2 cap2] 28) = w4 := ⟨_, rfl⟩
  have hb4 : Below w3.heap.size w3 w4 := by rw [← hw4]; exact (Below.refl _ _).alloc (Nat.le_refl _) _
  have HK4 := Lib.hid (HK3.below hb4)
  have HB4 := Lib.hid (bthen (bthen HB2.out hb3) hb4)
  have Hw4 := Lib.hid hw4; clear hw4 hb4 hb3 HK3
  have x0 := HK4.out.at 0 _ rfl; have x2 := HK4.out.at 2 _ rfl; have x10 := HK4.out.at 10 _ rfl
  go_upto_region 3 with fail
  rw [Hw4.out]
  go_wp2_with fail
  go_ret
  exact ⟨rfl, HB4.out⟩
end Go.Proofs.YtebldfnocpcddaaGreatDoor

/-
  The program's printer of changes (layer 10): put, word, name, kind, value.
-/
namespace Go.Proofs.YtebldfnocpcddaaGreatDoor
open Go.RowKit

theorem PrX.bel {w0 w : World} {b : Nat} {st : Pst} (h : PrX w0 w b st) : Below w0.heap.size w0 w := by obtain ⟨p, v, h, _⟩ := h; exact h.bel
theorem PrX.lt {w0 w : World} {b : Nat} {st : Pst} (h : PrX w0 w b st) : b < w.heap.size := by obtain ⟨p, v, h, _⟩ := h; exact h.lt
theorem PrX.setW {w0 w : World} {b : Nat} {st : Pst} (h : PrX w0 w b st) (wr : Bool) : PrX w0 (w.setCell ⟨b, 3, none⟩ (.bool wr)) b ⟨st.l, st.g, wr⟩ := by obtain ⟨p, v, h, hp⟩ := h; exact ⟨p, v, h.setW wr, hp⟩
theorem PrX.setG {w0 w : World} {b : Nat} {st : Pst} (h : PrX w0 w b st) (g : List UInt8) : PrX w0 (w.setCell ⟨b, 2, none⟩ (.string (strB g))) b ⟨st.l, g, st.wr⟩ := by obtain ⟨p, v, h, hp⟩ := h; exact ⟨p, v, h.setG g, hp⟩
theorem PrX.c2 {w0 w : World} {b : Nat} {st : Pst} (h : PrX w0 w b st) : w.cell? ⟨b, 2, none⟩ = some (.string (strB st.g)) ∧ w.cell? ⟨b, 3, none⟩ = some (.bool st.wr) := by obtain ⟨p, v, h, hp⟩ := h; exact h.cells.2.2
theorem PrX.frozen {w0 w : World} {b : Nat} {st : Pst} (h : PrX w0 w b st) (i : Nat) : w.frozen? ⟨b, i, none⟩ = false := by obtain ⟨p, v, h, hp⟩ := h; exact h.frozen i
/-- how a method of the printer ends -/
def PrE (w0 : World) (b : Nat) (st' : Pst) (w : World) (en : Ending) (w' : World) : Prop := en = .returned (.tuple #[]) ∧ PrX w0 w' b st' ∧ Keep b w w'
set_option maxRecDepth 100000 in
set_option maxHeartbeats 1600000 in
theorem pput_any (w0 : World) (b : Nat) (st : Pst) (t : ByteArray) (ok : Bool) (w : World) (h : PrX w0 w b st) (hl : ok = true → st.l.length + st.g.length + t.size ≤ 1099511627776) :
    Calls Tryz.prog 68 #[.pointer (some ⟨b, 0, none⟩), .string t, .bool ok] w fun en w' => PrE w0 b (putP st (bs t) ok) w en w' := by
  have H := Lib.hid h
  cases ok
  · have f3 := h.frozen 3
    obtain ⟨c2, c3⟩ := h.c2
    clear h hl
    go_enter Tryz.func68, Tryz.ntmps68
    go_wp2_with fail
    go_end0
    exact ⟨rfl, H.out.setW true, Keep.set _ _ _ _⟩
  · obtain ⟨c2, c3⟩ := h.c2
    have hl := hl rfl
    have hg : (strB st.g).size = st.g.length := ba_size _
    have HW : Hid (∀ w, PrX w0 w b st → Calls Tryz.prog 70 #[.pointer (some ⟨b, 0, none⟩), .string (strB st.g)] w fun e w' => e = .returned (.tuple #[.int .i64 (strB st.g).size, .nilIface]) ∧ PrX w0 w' b (rawP st (bs (strB st.g))) ∧ Keep b w w') := fun w h => pwrite_any w0 b st (strB st.g) w h (by rw [hg]; omega)
    have HW2 : Hid (∀ w1, PrX w0 w1 b (rawP st (bs (strB st.g))) → Calls Tryz.prog 70 #[.pointer (some ⟨b, 0, none⟩), .string t] w1 fun e w' => e = .returned (.tuple #[.int .i64 t.size, .nilIface]) ∧ PrX w0 w' b (rawP (rawP st (bs (strB st.g))) (bs t)) ∧ Keep b w1 w') := fun w1 h1 =>
      pwrite_any w0 b _ t w1 h1 (by show (st.l ++ bs (strB st.g)).length + _ ≤ _; rw [List.length_append, bs_length, hg]; omega)
    clear h hl hg
    go_enter Tryz.func68, Tryz.ntmps68
    go_wp2_with fail
    go_region_with (first
      | (go_at_call 70; refine (HW.out _ (H.out.below (by go_grown))).mono ?_; rintro en w1 ⟨rfl, h1, hk1⟩; have H1 := Lib.hid h1; have K1 : Hid (Keep b w w1) := (Keep.of_below (by go_grown)).trans hk1; clear h1 hk1)
      | fail)
    clear c2 c3
    go_wp2_with fail
    refine (HW2.out _ H1.out).mono ?_
    rintro en w2 ⟨rfl, h2, hk2⟩
    obtain ⟨c2, c3⟩ := h2.c2
    have f2 := h2.frozen 2
    have H2 := Lib.hid h2; have K2 := Lib.hid (K1.out.trans hk2)
    clear h2 hk2
    go_wp2_with fail
    go_end0
    refine ⟨rfl, ?_, K2.out.trans (Keep.set _ _ _ _)⟩
    have h3 := H2.out.setG [32]
    have e : (⟨(rawP (rawP st (bs (strB st.g))) (bs t)).l, [32], (rawP (rawP st (bs (strB st.g))) (bs t)).wr⟩ : Pst) = putP st (bs t) true := by
      show (⟨(st.l ++ bs (strB st.g)) ++ bs t, [32], st.wr⟩ : Pst) = ⟨st.l ++ (st.g ++ bs t), [32], st.wr⟩
      rw [List.append_assoc]; rfl
    rw [e] at h3
    exact h3
set_option maxRecDepth 100000 in
theorem pword_any (w0 : World) (b : Nat) (st : Pst) (t : ByteArray) (w : World) (h : PrX w0 w b st) (hl : st.l.length + st.g.length + t.size ≤ 1099511627776) :
    Calls Tryz.prog 40 #[.pointer (some ⟨b, 0, none⟩), .string t] w fun en w' => PrE w0 b (putP st (bs t) true) w en w' := by
  have HP := Lib.hid (pput_any w0 b st t true w h (fun _ => hl))
  clear h hl
  go_enter Tryz.func40, Tryz.ntmps40
  go_wp2_with fail
  refine HP.out.mono ?_
  rintro en w1 ⟨rfl, h1, hk1⟩
  have H1 := Lib.hid h1; have K1 := Lib.hid hk1; clear h1 hk1
  go_wp2_with fail
  first | go_end0 | refine bodyPost_ret (results_none rfl _ _ _) rfl ?_
  exact ⟨rfl, H1.out, K1.out⟩
set_option maxRecDepth 100000 in
theorem pname_any (w0 : World) (b : Nat) (st : Pst) (t : ByteArray) (w : World) (h : PrX w0 w b st) (hl : st.l.length + st.g.length ≤ 1000000000) (ht : t.size ≤ 1000000) :
    Calls Tryz.prog 41 #[.pointer (some ⟨b, 0, none⟩), .string t] w fun en w' => PrE w0 b (nmP st t) w en w' := by
  have HN := Lib.hid (nright_any t w ht)
  have HP := Lib.hid (pput_any w0 b st t (rightN (bs t)) w h (fun _ => by omega))
  clear h hl ht
  show Calls _ _ _ _ fun en w' => PrE w0 b (putP st (bs t) (rightN (bs t))) w en w'
  generalize rightN (bs t) = k at HN HP ⊢
  go_enter Tryz.func41, Tryz.ntmps41
  go_wp2_with fail
  refine HN.out.mono ?_
  rintro en w1 ⟨rfl, rfl⟩
  go_wp2_with fail
  refine HP.out.mono ?_
  rintro en w1 ⟨rfl, h1, hk1⟩
  have H1 := Lib.hid h1; have K1 := Lib.hid hk1; clear h1 hk1
  go_wp2_with fail
  first | go_end0 | refine bodyPost_ret (results_none rfl _ _ _) rfl ?_
  exact ⟨rfl, H1.out, K1.out⟩
theorem prW_len {k n : Int} {s : ByteArray} (hr : rightV k n (bs s) = true) (h1 : -9223372036854775808 ≤ n) (h2 : n < 9223372036854775808) : (prW k n (bs s)).length ≤ 1000000 := by
  have hd := dz_len n h1 h2
  unfold rightV at hr
  unfold prW
  by_cases e0 : k = 0
  · subst e0; simp [nullT]
  by_cases e1 : k = 1
  · rw [if_pos e1]; omega
  by_cases e2 : k = 2
  · rw [if_neg e1, if_pos e2, List.length_append]; simp; omega
  by_cases e3 : k = 3
  · rw [if_neg e0, if_neg e1, if_neg e2, if_pos e3] at hr
    simp only [Bool.and_eq_true, decide_eq_true_eq] at hr
    rw [if_neg e1, if_neg e2, if_pos e3, qt_len]
    have := qb_len (bs s)
    omega
  by_cases e4 : k = 4
  · rw [if_neg e0, if_neg e1, if_neg e2, if_neg e3, if_pos e4] at hr
    simp only [Bool.and_eq_true, decide_eq_true_eq] at hr
    rw [if_neg e1, if_neg e2, if_neg e3, if_pos e4]
    have := hxs_len (bs s)
    simp; omega
  · rw [if_neg e0, if_neg e1, if_neg e2, if_neg e3, if_neg e4] at hr
    cases hr
theorem putP_no (st : Pst) (t u : List UInt8) : putP st t false = putP st u false := rfl
set_option maxRecDepth 100000 in
theorem pkind_any (w0 : World) (b : Nat) (st : Pst) (k m : Int) (w : World) (h : PrX w0 w b st) (hT : Tbs w0) (hl : st.l.length + st.g.length ≤ 1000000000) :
    Calls Tryz.prog 44 #[.pointer (some ⟨b, 0, none⟩), TT k m] w fun en w' => PrE w0 b (kindP st k m) w en w' := by
  have hK := hT.2.1.below h.bel (Nat.le_refl _)
  obtain ⟨wa, hwa⟩ : ∃ wa, w.alloc (.cells #[.int .i64 k, .int .i64 m] 23) = wa := ⟨_, rfl⟩
  have hba : Below w.heap.size w wa := by rw [← hwa]; exact (Below.refl _ _).alloc (Nat.le_refl _) _
  have hK := hT.2.1.below (h.below hba).bel (Nat.le_refl _)
  have H := Lib.hid (h.below hba); have K0 := Lib.hid (Keep.of_below (b := b) hba); clear h
  have Hwa := Lib.hid hwa; clear hwa hba
  cases hr : rightT k m
  · have HN := Lib.hid (tprint_no k m wa hr)
    have He : Hid (kindP st k m = putP st [] false) := by show putP _ _ (rightT k m) = _; rw [hr]; rfl
    rw [He.out]
    clear hr hK
    go_enter Tryz.func44, Tryz.ntmps44
    go_wp2_with fail
    rw [Hwa.out]
    refine HN.out.mono ?_
    rintro en w1 ⟨rfl, hb⟩
    have H1 := Lib.hid (H.out.below hb); have K1 := Lib.hid (K0.out.trans (Keep.of_below (b := b) hb)); clear hb
    go_wp2_with fail
    refine (pput_any w0 b st ⟨#[]⟩ false _ H1.out (fun h => by cases h)).mono ?_
    rintro en w2 ⟨rfl, h2, hk2⟩
    have H2 := Lib.hid h2; have K2 := Lib.hid (K1.out.trans hk2); clear h2 hk2
    go_wp2_with fail
    first | go_end0 | refine bodyPost_ret (results_none rfl _ _ _) rfl ?_
    exact ⟨rfl, H2.out, K2.out⟩
  · have HN := Lib.hid (tprint_yes k m wa hK hr)
    have hsz := prT_len hr
    have He : Hid (kindP st k m = putP st (bs ⟨(prT k m).toArray⟩) true) := by show putP _ _ (rightT k m) = _; rw [hr]; rfl
    rw [He.out]
    obtain ⟨t, ht⟩ : ∃ t : ByteArray, ⟨(prT k m).toArray⟩ = t := ⟨_, rfl⟩
    have hts : t.size ≤ 1000000 := by rw [← ht, ba_size]; omega
    rw [ht] at HN ⊢
    clear hr hK ht hsz He
    go_enter Tryz.func44, Tryz.ntmps44
    go_wp2_with fail
    rw [Hwa.out]
    refine HN.out.mono ?_
    rintro en w1 ⟨rfl, hb⟩
    have H1 := Lib.hid (H.out.below hb); have K1 := Lib.hid (K0.out.trans (Keep.of_below (b := b) hb)); clear hb
    go_wp2_with fail
    refine (pput_any w0 b st t true _ H1.out (fun _ => by omega)).mono ?_
    rintro en w2 ⟨rfl, h2, hk2⟩
    have H2 := Lib.hid h2; have K2 := Lib.hid (K1.out.trans hk2); clear h2 hk2
    go_wp2_with fail
    first | go_end0 | refine bodyPost_ret (results_none rfl _ _ _) rfl ?_
    exact ⟨rfl, H2.out, K2.out⟩
set_option maxRecDepth 100000 in
theorem pvalue_any (w0 : World) (b : Nat) (st : Pst) (k n : Int) (s : ByteArray) (w : World) (h : PrX w0 w b st) (hT : Tbs w0) (hl : st.l.length + st.g.length ≤ 1000000000) (h1 : -9223372036854775808 ≤ n) (h2 : n < 9223372036854775808) (hs : s.size ≤ 1000000) :
    Calls Tryz.prog 45 #[.pointer (some ⟨b, 0, none⟩), VV k n s] w fun en w' => PrE w0 b (valP st k n s) w en w' := by
  have hK := hT.1.below h.bel (Nat.le_refl _)
  obtain ⟨wa, hwa⟩ : ∃ wa, w.alloc (.cells #[.int .i64 k, .int .i64 n, .string s] 25) = wa := ⟨_, rfl⟩
  have hba : Below w.heap.size w wa := by rw [← hwa]; exact (Below.refl _ _).alloc (Nat.le_refl _) _
  have hK := hT.1.below (h.below hba).bel (Nat.le_refl _)
  have H := Lib.hid (h.below hba); have K0 := Lib.hid (Keep.of_below (b := b) hba); clear h
  have Hwa := Lib.hid hwa; clear hwa hba
  cases hr : rightV k n (bs s)
  · have HN := Lib.hid (vprint_no k n s wa hK hr)
    have He : Hid (valP st k n s = putP st [] false) := by show putP _ _ (rightV k n (bs s)) = _; rw [hr]; rfl
    rw [He.out]
    clear hr hK h1 h2
    go_enter Tryz.func45, Tryz.ntmps45
    go_wp2_with fail
    rw [Hwa.out]
    refine HN.out.mono ?_
    rintro en w1 ⟨rfl, hb⟩
    have H1 := Lib.hid (H.out.below hb); have K1 := Lib.hid (K0.out.trans (Keep.of_below (b := b) hb)); clear hb
    go_wp2_with fail
    refine (pput_any w0 b st ⟨#[]⟩ false _ H1.out (fun h => by cases h)).mono ?_
    rintro en w2 ⟨rfl, h2, hk2⟩
    have H2 := Lib.hid h2; have K2 := Lib.hid (K1.out.trans hk2); clear h2 hk2
    go_wp2_with fail
    first | go_end0 | refine bodyPost_ret (results_none rfl _ _ _) rfl ?_
    exact ⟨rfl, H2.out, K2.out⟩
  · have HN := Lib.hid (vprint_yes k n s wa hK h1 h2 hs hr)
    have hsz := prW_len hr h1 h2
    have He : Hid (valP st k n s = putP st (bs ⟨(prW k n (bs s)).toArray⟩) true) := by show putP _ _ (rightV k n (bs s)) = _; rw [hr]; rfl
    rw [He.out]
    obtain ⟨t, ht⟩ : ∃ t : ByteArray, ⟨(prW k n (bs s)).toArray⟩ = t := ⟨_, rfl⟩
    have hts : t.size ≤ 1000000 := by rw [← ht, ba_size]; omega
    rw [ht] at HN ⊢
    clear hr hK ht hsz He h1 h2
    go_enter Tryz.func45, Tryz.ntmps45
    go_wp2_with fail
    rw [Hwa.out]
    refine HN.out.mono ?_
    rintro en w1 ⟨rfl, hb⟩
    have H1 := Lib.hid (H.out.below hb); have K1 := Lib.hid (K0.out.trans (Keep.of_below (b := b) hb)); clear hb
    go_wp2_with fail
    refine (pput_any w0 b st t true _ H1.out (fun _ => by omega)).mono ?_
    rintro en w2 ⟨rfl, h2, hk2⟩
    have H2 := Lib.hid h2; have K2 := Lib.hid (K1.out.trans hk2); clear h2 hk2
    go_wp2_with fail
    first | go_end0 | refine bodyPost_ret (results_none rfl _ _ _) rfl ?_
    exact ⟨rfl, H2.out, K2.out⟩
end Go.Proofs.YtebldfnocpcddaaGreatDoor

/-
  The program's printer of changes (layer 10): a column.
-/
namespace Go.Proofs.YtebldfnocpcddaaGreatDoor
open Go.RowKit

/-- sizes of a column, of a change, that is printed -/
def WfPc (c : Cb) : Prop := c.nm.size ≤ 1000000 ∧ c.ds.size ≤ 1000000 ∧ -9223372036854775808 ≤ c.dn ∧ c.dn < 9223372036854775808
def WfP (d : Dp) : Prop := d.tb.size ≤ 1000000 ∧ d.co.size ≤ 1000000 ∧ d.to.size ≤ 1000000 ∧ d.key.size ≤ 1000000 ∧ d.ds.size ≤ 1000000 ∧ (-9223372036854775808 ≤ d.dn ∧ d.dn < 9223372036854775808) ∧ d.cols.length ≤ 1000000 ∧ ∀ c ∈ d.cols, WfPc c
/-- how much longer a text may be behind a thing -/
def St (n : Nat) (st : Pst) : Prop := st.l.length ≤ n ∧ st.g.length ≤ 1
theorem St.put {n m : Nat} {st : Pst} (h : St n st) (t : List UInt8) (ok : Bool) (ht : ok = true → t.length ≤ m) : St (n + m + 1) (putP st t ok) := by
  obtain ⟨h1, h2⟩ := h
  cases ok
  · exact ⟨by show st.l.length ≤ _; omega, h2⟩
  · have := ht rfl
    exact ⟨by show (st.l ++ (st.g ++ t)).length ≤ _; rw [List.length_append, List.length_append]; omega, by show [(32 : UInt8)].length ≤ 1; simp⟩
theorem St.nm {n : Nat} {st : Pst} (h : St n st) (s : ByteArray) : St (n + 100) (nmP st s) := by
  have := h.put (m := 16) (bs s) (rightN (bs s)) (fun hr => (right_len hr).2)
  exact ⟨Nat.le_trans this.1 (by omega), this.2⟩
theorem St.kind {n : Nat} {st : Pst} (h : St n st) (k m : Int) : St (n + 100) (kindP st k m) := by
  have := h.put (m := 30) (prT k m) (rightT k m) (fun hr => prT_len hr)
  exact ⟨Nat.le_trans this.1 (by omega), this.2⟩
theorem prW_len2 {k n : Int} {s : ByteArray} (hr : rightV k n (bs s) = true) (h1 : -9223372036854775808 ≤ n) (h2 : n < 9223372036854775808) : (prW k n (bs s)).length ≤ 900 := by
  have hd := dz_len n h1 h2
  unfold rightV at hr
  unfold prW
  by_cases e0 : k = 0
  · subst e0; simp [nullT]
  by_cases e1 : k = 1
  · rw [if_pos e1]; omega
  by_cases e2 : k = 2
  · rw [if_neg e1, if_pos e2, List.length_append]; simp; omega
  by_cases e3 : k = 3
  · rw [if_neg e0, if_neg e1, if_neg e2, if_pos e3] at hr
    simp only [Bool.and_eq_true, decide_eq_true_eq] at hr
    rw [if_neg e1, if_neg e2, if_pos e3, qt_len]
    have := qb_len (bs s)
    omega
  by_cases e4 : k = 4
  · rw [if_neg e0, if_neg e1, if_neg e2, if_neg e3, if_pos e4] at hr
    simp only [Bool.and_eq_true, decide_eq_true_eq] at hr
    rw [if_neg e1, if_neg e2, if_neg e3, if_pos e4]
    have := hxs_len (bs s)
    simp; omega
  · rw [if_neg e0, if_neg e1, if_neg e2, if_neg e3, if_neg e4] at hr
    cases hr
theorem St.val {n : Nat} {st : Pst} (h : St n st) {k z : Int} {s : ByteArray} (h1 : -9223372036854775808 ≤ z) (h2 : z < 9223372036854775808) : St (n + 1000) (valP st k z s) := by
  have := h.put (m := 900) (prW k z (bs s)) (rightV k z (bs s)) (fun hr => prW_len2 hr h1 h2)
  exact ⟨Nat.le_trans this.1 (by omega), this.2⟩
theorem St.word {n : Nat} {st : Pst} (h : St n st) (t : List UInt8) (ht : t.length ≤ 90) : St (n + 100) (putP st t true) := by
  have := h.put (m := 90) t true (fun _ => ht)
  exact ⟨Nat.le_trans this.1 (by omega), this.2⟩
theorem St.more {n m : Nat} {st : Pst} (h : St n st) (hm : n ≤ m) : St m st := ⟨Nat.le_trans h.1 hm, h.2⟩
theorem St.null {n : Nat} {st : Pst} (h : St n st) (nl : Bool) : St (n + 100) (nullP st nl) := by
  cases nl
  · exact h.more (by omega)
  · exact h.word nullT (by decide)
theorem St.deflt {n : Nat} {st : Pst} (h : St n st) {k z : Int} {s : ByteArray} (h1 : -9223372036854775808 ≤ z) (h2 : z < 9223372036854775808) : St (n + 1100) (defP st k z s) := by
  unfold defP
  split
  · exact h.more (by omega)
  · exact ((h.word defT (by decide)).val h1 h2).more (by omega)
theorem St.cl {n : Nat} {st : Pst} (h : St n st) {c : Cb} (hc : WfPc c) : St (n + 1400) (clP st c) := ((((h.nm c.nm).kind c.tk c.tm).null c.nl).deflt hc.2.2.1 hc.2.2.2).more (by omega)
theorem PrE.keep {w0 : World} {b : Nat} {st : Pst} {w : World} {en : Ending} {w' : World} (h : PrE w0 b st w en w') : PrX w0 w' b st ∧ Keep b w w' := h.2
set_option maxRecDepth 100000 in
set_option maxHeartbeats 3200000 in
theorem pcolumn_any (w0 : World) (b : Nat) (st : Pst) (c : Cb) (w : World) (h : PrX w0 w b st) (hT : Tbs w0) (hl : St 100000000 st) (hc : WfPc c) :
    Calls Tryz.prog 43 #[.pointer (some ⟨b, 0, none⟩), CV c] w fun en w' => PrE w0 b (clP st c) w en w' := by
  obtain ⟨wa, hwa⟩ : ∃ wa, w.alloc (.cells #[.int .i64 c.id, .string c.nm, .int .i64 c.tk, .int .i64 c.tm, .bool c.nl, .int .i64 c.dk, .int .i64 c.dn, .string c.ds] 56) = wa := ⟨_, rfl⟩
  have hba : Below w.heap.size w wa := by rw [← hwa]; exact (Below.refl _ _).alloc (Nat.le_refl _) _
  have HK0 : Hid (Bk 56 wa w.heap.size (fC c)) := by rw [← hwa]; exact Bk.new w (fC c) 56
  have hKb : w.heap.size ≠ b := by have := h.lt; omega
  have Hwa := Lib.hid hwa; clear hwa
  have H0 := Lib.hid (h.below hba); have K0 := Lib.hid (Keep.of_below (b := b) hba)
  clear h hba
  have hcn := hc.1; have hcs := hc.2.1; have hz1 := hc.2.2.1; have hz2 := hc.2.2.2
  have S1 := Lib.hid (hl.nm c.nm)
  have S2 := Lib.hid (S1.out.kind c.tk c.tm)
  have S3 := Lib.hid (S2.out.null c.nl)
  have S4 := Lib.hid (S3.out.word defT (by decide))
  have hl0 := Lib.hid hl; clear hl hc
  have q : ∀ w, (binOp .neq 25 (VV c.dk c.dn c.ds) (VV 0 0 ⟨#[]⟩)).run Tryz.prog w = .ok (.bool (!nulV c.dk c.dn c.ds)) w := fun w => run_neq_V w c.dk c.dn 0 0 c.ds ⟨#[]⟩
  obtain ⟨x0, x1, x2, x3, x4, x5, x6, x7⟩ := (show _ ∧ _ ∧ _ ∧ _ ∧ _ ∧ _ ∧ _ ∧ _ from ⟨HK0.out.at 0 _ rfl, HK0.out.at 1 _ rfl, HK0.out.at 2 _ rfl, HK0.out.at 3 _ rfl, HK0.out.at 4 _ rfl, HK0.out.at 5 _ rfl, HK0.out.at 6 _ rfl, HK0.out.at 7 _ rfl⟩)
  go_enter Tryz.func43, Tryz.ntmps43
  go_wp2_with fail
  try rw [Hwa.out]
  try go_wp2_with fail
  refine (pname_any w0 b st c.nm _ H0.out (by have := hl0.out.1; have := hl0.out.2; omega) hcn).mono ?_
  rintro en w1 ⟨rfl, h1, k1⟩
  have H1 := Lib.hid h1; have K1 := Lib.hid (K0.out.trans k1); have HK1 := Lib.hid (k1 _ _ _ (by decide) hKb HK0.out)
  clear h1 k1 x0 x1 x2 x3 x4 x5 x6 x7
  have x2 := HK1.out.at 2 _ rfl; have x3 := HK1.out.at 3 _ rfl
  go_wp2_with fail
  refine (pkind_any w0 b _ c.tk c.tm _ H1.out hT (by have := S1.out.1; have := S1.out.2; omega)).mono ?_
  rintro en w2 ⟨rfl, h1, k1⟩
  have H2 := Lib.hid h1; have K2 := Lib.hid (K1.out.trans k1); have HK2 := Lib.hid (k1 _ _ _ (by decide) hKb HK1.out)
  clear h1 k1 x2 x3
  have x4 := HK2.out.at 4 _ rfl
  have x5 := HK2.out.at 5 _ rfl; have x6 := HK2.out.at 6 _ rfl; have x7 := HK2.out.at 7 _ rfl
  cases hn : c.nl
  · rw [hn] at x4 S3 S4
    have Hn := Lib.hid hn; clear hn
    cases hd : nulV c.dk c.dn c.ds
    · have HF : Hid (clP st c = valP (putP (kindP (nmP st c.nm) c.tk c.tm) defT true) c.dk c.dn c.ds) := by
        show defP (nullP (kindP (nmP st c.nm) c.tk c.tm) c.nl) _ _ _ = _
        rw [Hn.out]
        unfold defP
        rw [hd, if_neg (by decide)]; rfl
      rw [hd] at q
      clear hd
      go_wp2_with fail
      refine (pword_any w0 b _ ⟨#[100, 101, 102, 97, 117, 108, 116]⟩ _ H2.out (by have := S2.out.1; have := S2.out.2; show _ + _ + 7 ≤ _; omega)).mono ?_
      rintro en w3 ⟨rfl, h1, k1⟩
      have H3 := Lib.hid h1; have K3 := Lib.hid (K2.out.trans k1); have HK3 := Lib.hid (k1 _ _ _ (by decide) hKb HK2.out)
      clear h1 k1 x4 x5 x6 x7
      have x5 := HK3.out.at 5 _ rfl; have x6 := HK3.out.at 6 _ rfl; have x7 := HK3.out.at 7 _ rfl
      go_wp2_with fail
      refine (pvalue_any w0 b _ c.dk c.dn c.ds _ H3.out hT (by have := S4.out.1; have := S4.out.2; exact Nat.le_trans (Nat.add_le_add S4.out.1 S4.out.2) (by omega)) hz1 hz2 hcs).mono ?_
      rintro en w4 ⟨rfl, h1, k1⟩
      have H4 := Lib.hid h1; have K4 := Lib.hid (K3.out.trans k1)
      clear h1 k1 x5 x6 x7
      go_wp2_with fail
      first | go_end0 | refine bodyPost_ret (results_none rfl _ _ _) rfl ?_
      exact ⟨rfl, by rw [HF.out]; exact H4.out, K4.out⟩
    · have HF : Hid (clP st c = kindP (nmP st c.nm) c.tk c.tm) := by
        show defP (nullP (kindP (nmP st c.nm) c.tk c.tm) c.nl) _ _ _ = _
        rw [Hn.out]
        unfold defP
        rw [hd, if_pos rfl]; rfl
      rw [hd] at q
      clear hd
      go_wp2_with fail
      first | go_end0 | refine bodyPost_ret (results_none rfl _ _ _) rfl ?_
      exact ⟨rfl, by rw [HF.out]; exact H2.out, K2.out⟩
  · rw [hn] at x4 S3 S4
    have Hn := Lib.hid hn; clear hn
    go_wp2_with fail
    refine (pword_any w0 b _ ⟨#[110, 117, 108, 108]⟩ _ H2.out (by have := S2.out.1; have := S2.out.2; show _ + _ + 4 ≤ _; omega)).mono ?_
    rintro en w3 ⟨rfl, h1, k1⟩
    have H3 : Hid (PrX w0 w3 b (nullP (kindP (nmP st c.nm) c.tk c.tm) true)) := h1
    have K3 := Lib.hid (K2.out.trans k1); have HK3 := Lib.hid (k1 _ _ _ (by decide) hKb HK2.out)
    clear h1 k1 x4 x5 x6 x7
    have x5 := HK3.out.at 5 _ rfl; have x6 := HK3.out.at 6 _ rfl; have x7 := HK3.out.at 7 _ rfl
    cases hd : nulV c.dk c.dn c.ds
    · have HF : Hid (clP st c = valP (putP (nullP (kindP (nmP st c.nm) c.tk c.tm) true) defT true) c.dk c.dn c.ds) := by
        show defP (nullP (kindP (nmP st c.nm) c.tk c.tm) c.nl) _ _ _ = _
        rw [Hn.out]
        unfold defP
        rw [hd, if_neg (by decide)]; rfl
      rw [hd] at q
      clear hd
      go_wp2_with fail
      refine (pword_any w0 b _ ⟨#[100, 101, 102, 97, 117, 108, 116]⟩ _ H3.out (by have := S3.out.1; have := S3.out.2; show _ + _ + 7 ≤ _; omega)).mono ?_
      rintro en w4 ⟨rfl, h1, k1⟩
      have H4 := Lib.hid h1; have K4 := Lib.hid (K3.out.trans k1); have HK4 := Lib.hid (k1 _ _ _ (by decide) hKb HK3.out)
      clear h1 k1 x5 x6 x7
      have x5 := HK4.out.at 5 _ rfl; have x6 := HK4.out.at 6 _ rfl; have x7 := HK4.out.at 7 _ rfl
      go_wp2_with fail
      refine (pvalue_any w0 b _ c.dk c.dn c.ds _ H4.out hT (by exact Nat.le_trans (Nat.add_le_add S4.out.1 S4.out.2) (by omega)) hz1 hz2 hcs).mono ?_
      rintro en w5 ⟨rfl, h1, k1⟩
      have H5 := Lib.hid h1; have K5 := Lib.hid (K4.out.trans k1)
      clear h1 k1 x5 x6 x7
      go_wp2_with fail
      first | go_end0 | refine bodyPost_ret (results_none rfl _ _ _) rfl ?_
      exact ⟨rfl, by rw [HF.out]; exact H5.out, K5.out⟩
    · have HF : Hid (clP st c = nullP (kindP (nmP st c.nm) c.tk c.tm) true) := by
        show defP (nullP (kindP (nmP st c.nm) c.tk c.tm) c.nl) _ _ _ = _
        rw [Hn.out]
        unfold defP
        rw [hd, if_pos rfl]
      rw [hd] at q
      clear hd
      go_wp2_with fail
      first | go_end0 | refine bodyPost_ret (results_none rfl _ _ _) rfl ?_
      exact ⟨rfl, by rw [HF.out]; exact H3.out, K3.out⟩
end Go.Proofs.YtebldfnocpcddaaGreatDoor

/-
  The program's printer of changes (layer 10): columns between brackets.
-/
namespace Go.Proofs.YtebldfnocpcddaaGreatDoor
open Go.RowKit

theorem St.com {n : Nat} {st : Pst} (h : St n st) (f : Bool) : St (n + 100) (comP st f) := by
  cases f
  · refine ⟨?_, h.2⟩
    show (st.l ++ [44]).length ≤ _
    have := h.1
    rw [List.length_append]; simp; omega
  · exact h.more (by omega)
theorem St.colsg : ∀ {l : List Cb} {n : Nat} {st : Pst} {f : Bool}, St n st → (∀ c ∈ l, WfPc c) → St (n + 1500 * l.length) (Go.Proofs.YtebldfnocpcddaaGreatDoor.colsG st f l)
  | [], n, st, f, h, _ => h.more (by omega)
  | c :: r, n, st, f, h, hc => by
    have h1 := St.colsg (l := r) (f := false) ((h.com f).cl (hc c (by simp))) (fun x hx => hc x (by simp [hx]))
    exact h1.more (by rw [List.length_cons]; omega)
theorem St.cols {n : Nat} {st : Pst} (h : St n st) {l : List Cb} (hc : ∀ c ∈ l, WfPc c) : St (n + 16000) (colsP st l) := by
  unfold colsP
  split
  · rename_i hl
    have h0 := h.word [40] (by decide)
    have h1 : St (n + 100) (⟨(putP st [40] true).l, [], st.wr⟩ : Pst) := ⟨h0.1, by show ([] : List UInt8).length ≤ 1; simp⟩
    have h2 := St.colsg (f := true) h1 hc
    refine ⟨?_, h2.2⟩
    show ((colsG _ true l).l ++ [41]).length ≤ _
    have := h2.1
    rw [List.length_append]; simp; omega
  · exact ⟨by show st.l.length ≤ _; have := h.1; omega, h.2⟩
theorem colsG_step {st : Pst} {l : List Cb} {k : Nat} {c : Cb} {f : Bool} (hc : l[k]? = some c) : colsG st f (l.drop k) = colsG (clP (comP st f) c) false (l.drop (k + 1)) := by
  have hlt := (List.getElem?_eq_some_iff.1 hc).1
  have he := (List.getElem?_eq_some_iff.1 hc).2
  rw [List.drop_eq_getElem_cons hlt, he]; rfl
set_option maxRecDepth 100000 in
set_option maxHeartbeats 3200000 in
theorem pcolumns_any (w0 : World) (b : Nat) (st : Pst) (A : Option Addr) (cp : Nat) (l : List Cb) (w : World) (h : PrX w0 w b st) (hT : Tbs w0) (hl : St 10000000 st) (hA : ColsAt w0 w0.heap.size A l) (hlen : l.length ≤ 1000000) (hc : ∀ c ∈ l, WfPc c) :
    Calls Tryz.prog 42 #[.pointer (some ⟨b, 0, none⟩), .slice A l.length cp] w fun en w' => PrE w0 b (colsP st l) w en w' := by
  have H := Lib.hid h; have HA := Lib.hid hA; have HC := Lib.hid hc; have HL := Lib.hid hl
  by_cases hb : 1 ≤ l.length ∧ l.length ≤ 10
  case neg =>
    have HE : Hid (colsP st l = ⟨st.l, st.g, true⟩) := if_neg hb
    have f3 := h.frozen 3
    obtain ⟨c2, c3⟩ := h.c2
    clear h hA hc hl
    by_cases h0 : l.length = 0
    · have t1 : ((l.length : Int) == 0) = true := by simp [h0]
      clear hb h0
      go_enter Tryz.func42, Tryz.ntmps42
      go_wp2_with fail
      go_end0
      exact ⟨rfl, by rw [HE.out]; exact H.out.setW true, Keep.set _ _ _ _⟩
    · have t1 : ((l.length : Int) == 0) = false := by simp; intro h; apply h0; rw [h]; rfl
      have t2 : decide ((10 : Int) < (l.length : Int)) = true := by simp; omega
      have t3 : (10 : Int) < (l.length : Int) := by omega
      clear hb h0
      go_enter Tryz.func42, Tryz.ntmps42
      go_wp2_with fail
      go_end0
      exact ⟨rfl, by rw [HE.out]; exact H.out.setW true, Keep.set _ _ _ _⟩
  have HE : Hid (colsP st l = rawP (colsG ⟨(putP st [40] true).l, [], st.wr⟩ true l) [41]) := if_pos hb
  have h0 := HL.out.word [40] (by decide)
  have HS0 : Hid (St 10000100 (⟨(putP st [40] true).l, [], st.wr⟩ : Pst)) := ⟨h0.1, by show ([] : List UInt8).length ≤ 1; simp⟩
  have t1 : ((l.length : Int) == 0) = false := by
    cases hh : ((l.length : Int) == 0) with
    | false => rfl
    | true => have := of_decide_eq_true (p := (l.length : Int) = 0) (by simpa using hh); omega
  have t2 : decide ((10 : Int) < (l.length : Int)) = false := by simp; omega
  have t3 : ¬ (10 : Int) < (l.length : Int) := by omega
  have hlen := hb.2
  clear h hA hc hl h0 hb
  go_enter Tryz.func42, Tryz.ntmps42
  go_wp2_with fail
  refine (pword_any w0 b st ⟨#[40]⟩ _ H.out (by have := HL.out.1; have := HL.out.2; show _ + _ + 1 ≤ _; omega)).mono ?_
  rintro en w1 ⟨rfl, h1, k1⟩
  have f2 := h1.frozen 2
  obtain ⟨c2, c3⟩ := h1.c2
  have H1 : Hid (PrX w0 (w1.setCell ⟨b, 2, none⟩ (.string ⟨#[]⟩)) b ⟨(putP st [40] true).l, [], st.wr⟩) := h1.setG []
  have K1 : Hid (Keep b w (w1.setCell ⟨b, 2, none⟩ (.string ⟨#[]⟩))) := k1.trans (Keep.set _ _ _ _)
  clear h1 k1
  go_wp2_with fail
  clear c2 c3 f2
  obtain ⟨w2, hw2⟩ : ∃ w2, w1.setCell ⟨b, 2, none⟩ (.string ⟨#[]⟩) = w2 := ⟨_, rfl⟩
  rw [hw2] at H1 K1 ⊢
  clear hw2 t1 t2 t3
  go_loopw [24] (fun i wr => ∃ k : Nat, k ≤ l.length ∧ i = .int .i64 (k : Int) ∧ Hid (∃ stk, PrX w0 wr b stk ∧ Keep b w wr ∧ St (10000100 + 1500 * k) stk ∧ colsG ⟨(putP st [40] true).l, [], st.wr⟩ true l = colsG stk (decide (k = 0)) (l.drop k))) (fun i _ => l.length - (intOf i).toNat)
  case atStart => exact ⟨0, by omega, rfl, _, H1.out, K1.out, HS0.out, rfl⟩
  case round =>
    obtain ⟨k, hk, rfl, hh⟩ := hrel
    obtain ⟨stk, hx, hkp, hst, hG⟩ := hh.out
    clear hh
    have HX := Lib.hid hx; have HK := Lib.hid hkp; have HS := Lib.hid hst; have HG := Lib.hid hG
    clear hx hkp hst hG
    by_cases hlt : k < l.length
    · obtain ⟨c, hc⟩ : ∃ c, l[k]? = some c := ⟨l[k], by simp [hlt]⟩
      have HCc := Lib.hid (HC.out c (List.mem_of_getElem? hc))
      have HG2 := Lib.hid (HG.out.trans (colsG_step hc))
      obtain ⟨g, off, rfl, hgB, d0, d1, d2, d3, d4, d5, d6, d7⟩ := ColsAt.get (RowAt.below HA.out HX.out.bel) k c hc
      obtain ⟨w3, hw3, hb3, hX3, hs3⟩ := box_col wr c
      have HK3 : Hid (Bk 56 w3 wr.heap.size (fC c)) := by rw [← hw3]; exact Bk.new wr (fC c) 56
      have hKb : wr.heap.size ≠ b := by have := HX.out.lt; omega
      have Hw3 := Lib.hid hw3; clear hw3
      have HX3 := Lib.hid (HX.out.below hb3); have HKp3 := Lib.hid (HK.out.trans (Keep.of_below hb3))
      clear hb3 hX3 hs3 hc
      have hltI : (k : Int) < (l.length : Int) := by omega
      have h0k : (0 : Int) ≤ (k : Int) := by omega
      have hw1 : IntKind.i64.wrap ((k : Int) + 1) = (k : Int) + 1 := IntWalk.i64_in _ (by omega)
      have x0 := HK3.out.at 0 _ rfl; have x1 := HK3.out.at 1 _ rfl; have x2 := HK3.out.at 2 _ rfl; have x3 := HK3.out.at 3 _ rfl
      have x4 := HK3.out.at 4 _ rfl; have x5 := HK3.out.at 5 _ rfl; have x6 := HK3.out.at 6 _ rfl; have x7 := HK3.out.at 7 _ rfl
      by_cases h0 : k = 0
      · have hk0 : ¬ (0 : Int) < (k : Int) := by omega
        have Hf : Hid (decide (k = 0) = true) := by show _ = _; simp [h0]
        have Hk := Lib.hid h0
        clear h0
        go_wp2_with fail
        rw [Hw3.out]
        try go_wp2_with fail
        refine (pcolumn_any w0 b stk c _ HX3.out hT (HS.out.more (by omega)) HCc.out).mono ?_
        rintro en w4 ⟨rfl, h4, k4⟩
        have H4 := Lib.hid h4; have K4 := Lib.hid (HKp3.out.trans k4); clear h4 k4 x0 x1 x2 x3 x4 x5 x6 x7
        go_wp2_with fail
        go_roundw
        case rel => exact ⟨k + 1, by omega, by go_num, _, H4.out, K4.out, (HS.out.cl HCc.out).more (by omega), by rw [HG2.out, Hf.out]; simp; rfl⟩
        case measure => simp [intOf]; omega
      · have hk0 : (0 : Int) < (k : Int) := by omega
        have Hf : Hid (decide (k = 0) = false) := by show _ = _; simp [h0]
        clear h0
        go_wp2_with fail
        rw [Hw3.out]
        try go_wp2_with fail
        refine (pwrite_any w0 b stk ⟨#[44]⟩ _ HX3.out (by have := HS.out.1; show _ + 1 ≤ _; omega)).mono ?_
        rintro en w4 ⟨rfl, h4, k4⟩
        have H4 : Hid (PrX w0 w4 b (comP stk false)) := h4
        have K4 := Lib.hid (HKp3.out.trans k4); have HK4 := Lib.hid (k4 _ _ _ (by decide) hKb HK3.out); clear h4 k4 x0 x1 x2 x3 x4 x5 x6 x7
        have x0 := HK4.out.at 0 _ rfl; have x1 := HK4.out.at 1 _ rfl; have x2 := HK4.out.at 2 _ rfl; have x3 := HK4.out.at 3 _ rfl
        have x4 := HK4.out.at 4 _ rfl; have x5 := HK4.out.at 5 _ rfl; have x6 := HK4.out.at 6 _ rfl; have x7 := HK4.out.at 7 _ rfl
        go_wp2_with fail
        refine (pcolumn_any w0 b _ c _ H4.out hT ((HS.out.com false).more (by omega)) HCc.out).mono ?_
        rintro en w5 ⟨rfl, h5, k5⟩
        have H5 := Lib.hid h5; have K5 := Lib.hid (K4.out.trans k5); clear h5 k5 x0 x1 x2 x3 x4 x5 x6 x7
        go_wp2_with fail
        go_roundw
        case rel => exact ⟨k + 1, by omega, by go_num, _, H5.out, K5.out, ((HS.out.com false).cl HCc.out).more (by omega), by rw [HG2.out, Hf.out]; simp⟩
        case measure => simp [intOf]; omega
    · obtain rfl : k = l.length := by omega
      have hltI : ¬ ((l.length : Int) < (l.length : Int)) := by omega
      have HG2 : Hid (colsP st l = rawP stk [41]) := by
        show _ = _
        rw [HE.out, HG.out, List.drop_length]; rfl
      clear hlt
      go_wp2_with fail
      refine (pwrite_any w0 b stk ⟨#[41]⟩ _ HX.out (by have := HS.out.1; show _ + 1 ≤ _; omega)).mono ?_
      rintro en w4 ⟨rfl, h4, k4⟩
      have H4 : Hid (PrX w0 w4 b (rawP stk [41])) := h4
      have K4 := Lib.hid (HK.out.trans k4); clear h4 k4
      go_wp2_with fail
      first | go_end0 | refine bodyPost_ret (results_none rfl _ _ _) rfl ?_
      exact ⟨rfl, by rw [HG2.out]; exact H4.out, K4.out⟩
end Go.Proofs.YtebldfnocpcddaaGreatDoor
