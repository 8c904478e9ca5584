/-
  Texts that the proof needs, one behind the other: DtxQ9C.
-/
import Derived.Test.YtebldfnocpcddaaGreatDoorPart29

/-
  The program's Parse of changes (layer 10), whole.
-/
namespace Go.Proofs.YtebldfnocpcddaaGreatDoor
open Go.RowKit

/-- what a text comes to: the change, the place, the error -/
def PRes (l : List UInt8) (x : Dp) (a e : Nat) : Prop :=
  (e = 0 ∧ pAll l = .ok x ∧ a = l.length) ∨ (e ≠ 0 ∧ x = dp0 0 [] ∧ ∃ q, pAll l = .error (q, e) ∧ q.length ≤ l.length ∧ a = l.length - q.length)
theorem PRes.unique {l : List UInt8} {x y : Dp} {a c e f : Nat} (h : PRes l x a e) (k : PRes l y c f) : x = y ∧ a = c ∧ e = f := by
  rcases h with ⟨h1, h2, h3⟩ | ⟨h1, h2, q, h3, h4, h5⟩ <;> rcases k with ⟨k1, k2, k3⟩ | ⟨k1, k2, r, k3, k4, k5⟩
  · rw [h2] at k2; cases k2; exact ⟨rfl, by omega, by omega⟩
  · rw [h2] at k3; cases k3
  · rw [h3] at k2; cases k2
  · rw [h3] at k3; cases k3; exact ⟨by rw [h2, k2], by omega, rfl⟩
/-- how a parse ends -/
def PEndP (s : ByteArray) (w : World) (en : Ending) (w' : World) : Prop :=
  Below w.heap.size w w' ∧ ∃ (d : Db) (a e : Nat), en = .returned (.tuple #[DV d, .int .i64 (a : Int), .int .i64 (e : Int)]) ∧ DdlAt w' w'.heap.size d ∧ d.p.cols.length ≤ 10 ∧ PRes (bs s) d.p a e
theorem Off.old {w w' : World} {B r : Nat} (h : Off (fun k => k < B) w w') (i : Nat) (v : Value) (hr : r < B) : Off (fun k => k < B) w (w'.setCell ⟨r, i, none⟩ v) := h.trans ((Off.set w' r i v).mono (fun k _ hk => by rw [hk]; exact hr))
theorem RowAt.off {α : Type} {m : Nat} {f : α → List Value} {S : Nat → Prop} {w w' : World} {B : Nat} {A : Option Addr} {l : List α} (h : RowAt m f w B A l) (ho : Off S w w') (hn : ∀ p : Addr, A = some p → ¬ S p.block) : RowAt m f w' B A l := fun hp => by
  obtain ⟨b, off, rfl, hb, hc⟩ := h hp
  exact ⟨b, off, rfl, hb, fun j x hj i v hv => ho.keep (hc j x hj i v hv) (show ¬ S b from hn ⟨b, off, none⟩ rfl)⟩
theorem chg_ok {s : ByteArray} {x : Dp} {a : Nat} (h : QTo pChange s 0 x a) (hb : bl ((bs s).drop a) = []) : PRes (bs s) x s.size 0 := by
  refine .inl ⟨rfl, ?_, (bs_length s).symm⟩
  have h2 : pChange (bs s) = .ok (x, (bs s).drop a) := h
  unfold pAll
  rw [h2]
  show (if bl ((bs s).drop a) = [] then _ else _) = _
  rw [if_pos hb]
theorem chg_extra {s : ByteArray} {x : Dp} {a : Nat} (h : QTo pChange s 0 x a) (hb : bl ((bs s).drop a) ≠ []) (ha : a ≤ s.size) : PRes (bs s) (dp0 0 []) (nb s a) 6 := by
  refine .inr ⟨by decide, rfl, (bs s).drop (nb s a), ?_, by rw [List.length_drop]; omega, ?_⟩
  · have h2 : pChange (bs s) = .ok (x, (bs s).drop a) := h
    unfold pAll
    rw [h2]
    show (if bl ((bs s).drop a) = [] then _ else _) = _
    rw [if_neg hb, nb_drop ha]
  · have := (nb_le ha).2
    rw [List.length_drop, bs_length]; omega
theorem chg_no {s : ByteArray} {a e : Nat} (h : QNo pChange s 0 a e) (ha : a ≤ s.size) : PRes (bs s) (dp0 0 []) a e := by
  refine .inr ⟨h.1, rfl, (bs s).drop a, ?_, by rw [List.length_drop]; omega, by rw [List.length_drop, bs_length]; omega⟩
  have h2 : pChange (bs s) = .error ((bs s).drop a, e) := h.2
  unfold pAll
  rw [h2]; rfl
theorem Below.put {B : Nat} {w w' : World} (h : Below B w w') (r i : Nat) (v : Value) (hr : B ≤ r) : Below B w (w'.setCell ⟨r, i, none⟩ v) := h.setCell (p := ⟨r, i, none⟩) hr v
/-- behind the closure that has recovered -/
theorem caught_of {w : World} {r1 r2 r3 a e B : Nat} {v0 v1 v2 v3 v4 v5 v6 v7 v8 v9 v10 v11 u2 u3 : Value}
    (h1 : Bk 28 w r1 [v0, v1, v2, v3, v4, v5, v6, v7, v8, v9, v10, v11]) (h2 : Bk 3 w r2 [u2]) (h3 : Bk 31 w r3 [u3]) (n4 : r1 ≠ r2) (n5 : r1 ≠ r3) (n6 : r2 ≠ r3) (b1 : B ≤ r1) (b2 : B ≤ r2) (b3 : B ≤ r3) :
    Bk 28 (caught w r1 r2 r3 a e) r1 [(.int .i64 0), (.string ⟨#[]⟩), (.string ⟨#[]⟩), (.string ⟨#[]⟩), (.string ⟨#[]⟩), (.int .i64 0), (.int .i64 0), (.bool false), (.int .i64 0), (.int .i64 0), (.string ⟨#[]⟩), (.slice none 0 0)] ∧ Bk 3 (caught w r1 r2 r3 a e) r2 [.int .i64 (a : Int)] ∧ Bk 31 (caught w r1 r2 r3 a e) r3 [.int .i64 (e : Int)] ∧ Below B w (caught w r1 r2 r3 a e) := by
  have m4 : r2 ≠ r1 := fun e => n4 e.symm
  have m5 : r3 ≠ r1 := fun e => n5 e.symm
  have m6 : r3 ≠ r2 := fun e => n6 e.symm
  unfold caught
  exact ⟨((((((((((((((h1.set 0 (.int .i64 0)).set 1 (.string ⟨#[]⟩)).set 2 (.string ⟨#[]⟩)).set 3 (.string ⟨#[]⟩)).set 4 (.string ⟨#[]⟩)).set 5 (.int .i64 0)).set 6 (.int .i64 0)).set 7 (.bool false)).set 8 (.int .i64 0)).set 9 (.int .i64 0)).set 10 (.string ⟨#[]⟩)).set 11 (.slice none 0 0)).put r2 0 (.int .i64 (a : Int)) m4).put r3 0 (.int .i64 (e : Int)) m5), ((((((((((((((h2.put r1 0 (.int .i64 0) n4).put r1 1 (.string ⟨#[]⟩) n4).put r1 2 (.string ⟨#[]⟩) n4).put r1 3 (.string ⟨#[]⟩) n4).put r1 4 (.string ⟨#[]⟩) n4).put r1 5 (.int .i64 0) n4).put r1 6 (.int .i64 0) n4).put r1 7 (.bool false) n4).put r1 8 (.int .i64 0) n4).put r1 9 (.int .i64 0) n4).put r1 10 (.string ⟨#[]⟩) n4).put r1 11 (.slice none 0 0) n4).set 0 (.int .i64 (a : Int))).put r3 0 (.int .i64 (e : Int)) m6), ((((((((((((((h3.put r1 0 (.int .i64 0) n5).put r1 1 (.string ⟨#[]⟩) n5).put r1 2 (.string ⟨#[]⟩) n5).put r1 3 (.string ⟨#[]⟩) n5).put r1 4 (.string ⟨#[]⟩) n5).put r1 5 (.int .i64 0) n5).put r1 6 (.int .i64 0) n5).put r1 7 (.bool false) n5).put r1 8 (.int .i64 0) n5).put r1 9 (.int .i64 0) n5).put r1 10 (.string ⟨#[]⟩) n5).put r1 11 (.slice none 0 0) n5).put r2 0 (.int .i64 (a : Int)) n6).set 0 (.int .i64 (e : Int))), (Below.put (Below.put (Below.put (Below.put (Below.put (Below.put (Below.put (Below.put (Below.put (Below.put (Below.put (Below.put (Below.put (Below.put (Below.refl B w) r1 0 (.int .i64 0) b1) r1 1 (.string ⟨#[]⟩) b1) r1 2 (.string ⟨#[]⟩) b1) r1 3 (.string ⟨#[]⟩) b1) r1 4 (.string ⟨#[]⟩) b1) r1 5 (.int .i64 0) b1) r1 6 (.int .i64 0) b1) r1 7 (.bool false) b1) r1 8 (.int .i64 0) b1) r1 9 (.int .i64 0) b1) r1 10 (.string ⟨#[]⟩) b1) r1 11 (.slice none 0 0) b1) r2 0 (.int .i64 (a : Int)) b2) r3 0 (.int .i64 (e : Int)) b3)⟩
set_option maxRecDepth 100000 in
theorem results_kP {fn : Func} {p q r : Tmp} {w : World} {b c g : Nat} (h : fn.results = #[.cell p 28, .cell q 3, .cell r 31]) (tmps : Array Value) {x0 x1 x2 x3 x4 x5 x6 x7 x8 x9 x10 x11 y z : Value} (hp : tmps.getD p undef = .pointer (some ⟨b, 0, none⟩)) (hq : tmps.getD q undef = .pointer (some ⟨c, 0, none⟩)) (hr : tmps.getD r undef = .pointer (some ⟨g, 0, none⟩))
    (hb : Bk 28 w b [x0, x1, x2, x3, x4, x5, x6, x7, x8, x9, x10, x11]) (hc : Bk 3 w c [y]) (hg : Bk 31 w g [z]) :
    (results fn tmps).run Tryz.prog w = .ok (.tuple #[.agg #[x0, x1, x2, x3, x4, x5, x6, x7, x8, x9, x10, x11], y, z]) w := by
  have c0 := hb.at 0 _ rfl
  have c1 := hb.at 1 _ rfl
  have c2 := hb.at 2 _ rfl
  have c3 := hb.at 3 _ rfl
  have c4 := hb.at 4 _ rfl
  have c5 := hb.at 5 _ rfl
  have c6 := hb.at 6 _ rfl
  have c7 := hb.at 7 _ rfl
  have c8 := hb.at 8 _ rfl
  have c9 := hb.at 9 _ rfl
  have c10 := hb.at 10 _ rfl
  have c11 := hb.at 11 _ rfl
  have d0 := hc.at 0 _ rfl
  have e0 := hg.at 0 _ rfl
  have hp' : tmps[p]?.getD undef = .pointer (some ⟨b, 0, none⟩) := by simpa using hp
  have hq' : tmps[q]?.getD undef = .pointer (some ⟨c, 0, none⟩) := by simpa using hq
  have hr' : tmps[r]?.getD undef = .pointer (some ⟨g, 0, none⟩) := by simpa using hr
  simp [results, h, go_sem, hp', hq', hr', c0, c1, c2, c3, c4, c5, c6, c7, c8, c9, c10, c11, d0, e0]
set_option maxRecDepth 100000 in
set_option maxHeartbeats 6400000 in
theorem qparse_any (s : ByteArray) (w : World) (ht : Tbs w) (hs : s.size ≤ 1000000) : Calls Tryz.prog 13 #[.string s] w fun en w' => PEndP s w en w' := by
  have hmf : ∀ (fn : Fn) (first cap : Array Value) (w : World), (Instr.makeFunc fn first cap).run Tryz.prog w = .ok (.func fn first cap) w := fun _ _ _ _ => rfl
  have HT := Lib.hid ht; clear ht
  obtain ⟨wa, hwa⟩ : ∃ wa, (((w.alloc (.cells [(.int .i64 0), (.string ⟨#[]⟩), (.string ⟨#[]⟩), (.string ⟨#[]⟩), (.string ⟨#[]⟩), (.int .i64 0), (.int .i64 0), (.bool false), (.int .i64 0), (.int .i64 0), (.string ⟨#[]⟩), (.slice none 0 0)].toArray 28)).alloc (.cells [.int .i64 0].toArray 3)).alloc (.cells [.int .i64 0].toArray 31)).alloc (.cells [.string s, .int .i64 0].toArray 63) = wa := ⟨_, rfl⟩
  have hba : Below w.heap.size w wa := by rw [← hwa]; exact ((((Below.refl _ _).alloc (Nat.le_refl _) _).alloc (by simp) _).alloc (by simp; omega) _).alloc (by simp; omega) _
  have hB := hba
  have H1 : Hid (Bk 28 wa w.heap.size [(.int .i64 0), (.string ⟨#[]⟩), (.string ⟨#[]⟩), (.string ⟨#[]⟩), (.string ⟨#[]⟩), (.int .i64 0), (.int .i64 0), (.bool false), (.int .i64 0), (.int .i64 0), (.string ⟨#[]⟩), (.slice none 0 0)]) := by
    show Bk _ _ _ _
    rw [← hwa]
    exact (((Bk.new w _ _).below ((Below.refl _ _).alloc (Nat.le_refl _) _)).below ((Below.refl _ _).alloc (Nat.le_refl _) _)).below ((Below.refl _ _).alloc (Nat.le_refl _) _)
  have H2 : Hid (Bk 3 wa (w.heap.size + 1) [.int .i64 0]) := by
    show Bk _ _ _ _
    rw [← hwa]
    have h0 := Bk.new (w.alloc (.cells [(.int .i64 0), (.string ⟨#[]⟩), (.string ⟨#[]⟩), (.string ⟨#[]⟩), (.string ⟨#[]⟩), (.int .i64 0), (.int .i64 0), (.bool false), (.int .i64 0), (.int .i64 0), (.string ⟨#[]⟩), (.slice none 0 0)].toArray 28)) [.int .i64 0] 3
    have e0 : (w.alloc (.cells [(.int .i64 0), (.string ⟨#[]⟩), (.string ⟨#[]⟩), (.string ⟨#[]⟩), (.string ⟨#[]⟩), (.int .i64 0), (.int .i64 0), (.bool false), (.int .i64 0), (.int .i64 0), (.string ⟨#[]⟩), (.slice none 0 0)].toArray 28)).heap.size = w.heap.size + 1 := by simp
    rw [e0] at h0
    exact (h0.below ((Below.refl _ _).alloc (Nat.le_refl _) _)).below ((Below.refl _ _).alloc (Nat.le_refl _) _)
  have H3 : Hid (Bk 31 wa (w.heap.size + 1 + 1) [.int .i64 0]) := by
    show Bk _ _ _ _
    rw [← hwa]
    have h0 := Bk.new ((w.alloc (.cells [(.int .i64 0), (.string ⟨#[]⟩), (.string ⟨#[]⟩), (.string ⟨#[]⟩), (.string ⟨#[]⟩), (.int .i64 0), (.int .i64 0), (.bool false), (.int .i64 0), (.int .i64 0), (.string ⟨#[]⟩), (.slice none 0 0)].toArray 28)).alloc (.cells [.int .i64 0].toArray 3)) [.int .i64 0] 31
    have e0 : ((w.alloc (.cells [(.int .i64 0), (.string ⟨#[]⟩), (.string ⟨#[]⟩), (.string ⟨#[]⟩), (.string ⟨#[]⟩), (.int .i64 0), (.int .i64 0), (.bool false), (.int .i64 0), (.int .i64 0), (.string ⟨#[]⟩), (.slice none 0 0)].toArray 28)).alloc (.cells [.int .i64 0].toArray 3)).heap.size = w.heap.size + 1 + 1 := by simp
    rw [e0] at h0
    exact h0.below ((Below.refl _ _).alloc (Nat.le_refl _) _)
  have HP : Hid (QBx 63 wa (w.heap.size + 1 + 1 + 1) s 0) := by
    refine ⟨?_, Nat.zero_le _, HT.out.below hba⟩
    rw [← hwa]
    have h0 := Bk.new (((w.alloc (.cells [(.int .i64 0), (.string ⟨#[]⟩), (.string ⟨#[]⟩), (.string ⟨#[]⟩), (.string ⟨#[]⟩), (.int .i64 0), (.int .i64 0), (.bool false), (.int .i64 0), (.int .i64 0), (.string ⟨#[]⟩), (.slice none 0 0)].toArray 28)).alloc (.cells [.int .i64 0].toArray 3)).alloc (.cells [.int .i64 0].toArray 31)) [.string s, .int .i64 0] 63
    have e0 : (((w.alloc (.cells [(.int .i64 0), (.string ⟨#[]⟩), (.string ⟨#[]⟩), (.string ⟨#[]⟩), (.string ⟨#[]⟩), (.int .i64 0), (.int .i64 0), (.bool false), (.int .i64 0), (.int .i64 0), (.string ⟨#[]⟩), (.slice none 0 0)].toArray 28)).alloc (.cells [.int .i64 0].toArray 3)).alloc (.cells [.int .i64 0].toArray 31)).heap.size = w.heap.size + 1 + 1 + 1 := by simp
    rw [e0] at h0
    exact h0
  have HB := Lib.hid hB
  have Hwa := Lib.hid hwa
  clear hwa hba hB
  go_enter_defers Tryz.func13, Tryz.ntmps13
  go_wp2_with fail
  rw [Hwa.out]
  refine (qchange_any _ s 0 _ HP.out hs).mono ?_
  rintro en w1 ⟨ho, ⟨d, a1, rfl, hda, hp, hto, hl, hA⟩ | ⟨a1, e1, rfl, hp, hno⟩⟩
  case inr =>
    have HP1 := Lib.hid hp
    have K1 := Lib.hid (H1.out.off ho (by omega)); have K2 := Lib.hid (H2.out.off ho (by omega)); have K3 := Lib.hid (H3.out.off ho (by omega))
    have HB1 : Hid (Below w.heap.size w w1) := HB.out.trans (ho.below (fun k _ hk => by omega) HB.out.size)
    have HR := Lib.hid (chg_no hno hp.le)
    clear hp ho hno
    go_wp2_with fail
    refine leaves_cons (f := 30) (args := #[.pointer (some ⟨w.heap.size + 1 + 1 + 1, 0, none⟩), .pointer (some ⟨w.heap.size, 0, none⟩), .pointer (some ⟨w.heap.size + 1, 0, none⟩), .pointer (some ⟨w.heap.size + 1 + 1, 0, none⟩)]) (by simp) (by simp [go_sem]) ?_
    refine (catch_pan (w.heap.size + 1 + 1 + 1) w.heap.size (w.heap.size + 1) (w.heap.size + 1 + 1) a1 e1 s [] _ _ _ _ _ _ _ _ _ _ _ _ _ _ _ HP1.out.box K1.out K2.out K3.out (by omega) (by omega) (by omega) (by omega) (by omega) (by omega)).mono ?_
    rintro e u' w9 ⟨rfl, rfl, rfl⟩
    obtain ⟨k1, k2, k3, kb⟩ := caught_of (a := a1) (e := e1) (B := w.heap.size) K1.out K2.out K3.out (by omega) (by omega) (by omega) (by omega) (by omega) (by omega)
    have hd : ∀ W : World, Below W.heap.size W W.drew := fun W => (Below.refl _ _).drew
    refine ⟨_, results_kP rfl _ rfl rfl rfl (k1.below (hd _)) (k2.below (hd _)) (k3.below (hd _)), ?_⟩
    exact ⟨(HB1.out.trans kb).drew, ⟨dp0 0 [], none, 0⟩, a1, e1, rfl, fun hp => absurd hp (by simp [dp0]), by simp [dp0], HR.out⟩
  have HP1 := Lib.hid hp
  have K1 := Lib.hid (H1.out.off ho (by omega)); have K2 := Lib.hid (H2.out.off ho (by omega)); have K3 := Lib.hid (H3.out.off ho (by omega))
  have HB1 : Hid (Below w.heap.size w w1) := HB.out.trans (ho.below (fun k _ hk => by omega) HB.out.size)
  have HD := Lib.hid hda; have HTo := Lib.hid hto; have HL := Lib.hid hl; have HA := Lib.hid hA
  clear hp ho hda hto hl hA
  have c0 := K1.out.at 0 _ rfl; have q0 := K1.out.thaw 0
  have c1 := K1.out.at 1 _ rfl; have q1 := K1.out.thaw 1
  have c2 := K1.out.at 2 _ rfl; have q2 := K1.out.thaw 2
  have c3 := K1.out.at 3 _ rfl; have q3 := K1.out.thaw 3
  have c4 := K1.out.at 4 _ rfl; have q4 := K1.out.thaw 4
  have c5 := K1.out.at 5 _ rfl; have q5 := K1.out.thaw 5
  have c6 := K1.out.at 6 _ rfl; have q6 := K1.out.thaw 6
  have c7 := K1.out.at 7 _ rfl; have q7 := K1.out.thaw 7
  have c8 := K1.out.at 8 _ rfl; have q8 := K1.out.thaw 8
  have c9 := K1.out.at 9 _ rfl; have q9 := K1.out.thaw 9
  have c10 := K1.out.at 10 _ rfl; have q10 := K1.out.thaw 10
  have c11 := K1.out.at 11 _ rfl; have q11 := K1.out.thaw 11
  go_wp2_with fail
  clear c0 q0 c1 q1 c2 q2 c3 q3 c4 q4 c5 q5 c6 q6 c7 q7 c8 q8 c9 q9 c10 q10 c11 q11
  have k1 := ((((((((((((K1.out.set 0 (.int .i64 d.p.op)).set 1 (.string d.p.tb)).set 2 (.string d.p.co)).set 3 (.string d.p.to)).set 4 (.string d.p.key)).set 5 (.int .i64 d.p.tk)).set 6 (.int .i64 d.p.tm)).set 7 (.bool d.p.nl)).set 8 (.int .i64 d.p.dk)).set 9 (.int .i64 d.p.dn)).set 10 (.string d.p.ds)).set 11 (.slice d.A d.p.cols.length d.cap))
  have k2 := ((((((((((((K2.out.put w.heap.size 0 (.int .i64 d.p.op) (by omega)).put w.heap.size 1 (.string d.p.tb) (by omega)).put w.heap.size 2 (.string d.p.co) (by omega)).put w.heap.size 3 (.string d.p.to) (by omega)).put w.heap.size 4 (.string d.p.key) (by omega)).put w.heap.size 5 (.int .i64 d.p.tk) (by omega)).put w.heap.size 6 (.int .i64 d.p.tm) (by omega)).put w.heap.size 7 (.bool d.p.nl) (by omega)).put w.heap.size 8 (.int .i64 d.p.dk) (by omega)).put w.heap.size 9 (.int .i64 d.p.dn) (by omega)).put w.heap.size 10 (.string d.p.ds) (by omega)).put w.heap.size 11 (.slice d.A d.p.cols.length d.cap) (by omega))
  have k3 := ((((((((((((K3.out.put w.heap.size 0 (.int .i64 d.p.op) (by omega)).put w.heap.size 1 (.string d.p.tb) (by omega)).put w.heap.size 2 (.string d.p.co) (by omega)).put w.heap.size 3 (.string d.p.to) (by omega)).put w.heap.size 4 (.string d.p.key) (by omega)).put w.heap.size 5 (.int .i64 d.p.tk) (by omega)).put w.heap.size 6 (.int .i64 d.p.tm) (by omega)).put w.heap.size 7 (.bool d.p.nl) (by omega)).put w.heap.size 8 (.int .i64 d.p.dk) (by omega)).put w.heap.size 9 (.int .i64 d.p.dn) (by omega)).put w.heap.size 10 (.string d.p.ds) (by omega)).put w.heap.size 11 (.slice d.A d.p.cols.length d.cap) (by omega))
  have kb := (Below.put (Below.put (Below.put (Below.put (Below.put (Below.put (Below.put (Below.put (Below.put (Below.put (Below.put (Below.put HB1.out w.heap.size 0 (.int .i64 d.p.op) (Nat.le_refl _)) w.heap.size 1 (.string d.p.tb) (Nat.le_refl _)) w.heap.size 2 (.string d.p.co) (Nat.le_refl _)) w.heap.size 3 (.string d.p.to) (Nat.le_refl _)) w.heap.size 4 (.string d.p.key) (Nat.le_refl _)) w.heap.size 5 (.int .i64 d.p.tk) (Nat.le_refl _)) w.heap.size 6 (.int .i64 d.p.tm) (Nat.le_refl _)) w.heap.size 7 (.bool d.p.nl) (Nat.le_refl _)) w.heap.size 8 (.int .i64 d.p.dk) (Nat.le_refl _)) w.heap.size 9 (.int .i64 d.p.dn) (Nat.le_refl _)) w.heap.size 10 (.string d.p.ds) (Nat.le_refl _)) w.heap.size 11 (.slice d.A d.p.cols.length d.cap) (Nat.le_refl _))
  have kp : (((((((((((((w1.setCell ⟨w.heap.size, 0, none⟩ (.int .i64 d.p.op)).setCell ⟨w.heap.size, 1, none⟩ (.string d.p.tb)).setCell ⟨w.heap.size, 2, none⟩ (.string d.p.co)).setCell ⟨w.heap.size, 3, none⟩ (.string d.p.to)).setCell ⟨w.heap.size, 4, none⟩ (.string d.p.key)).setCell ⟨w.heap.size, 5, none⟩ (.int .i64 d.p.tk)).setCell ⟨w.heap.size, 6, none⟩ (.int .i64 d.p.tm)).setCell ⟨w.heap.size, 7, none⟩ (.bool d.p.nl)).setCell ⟨w.heap.size, 8, none⟩ (.int .i64 d.p.dk)).setCell ⟨w.heap.size, 9, none⟩ (.int .i64 d.p.dn)).setCell ⟨w.heap.size, 10, none⟩ (.string d.p.ds)).setCell ⟨w.heap.size, 11, none⟩ (.slice d.A d.p.cols.length d.cap))).heap[w.heap.size + 1 + 1 + 1]? = w1.heap[w.heap.size + 1 + 1 + 1]? := by rw [put_ne _ _ _ _ _ (by omega), put_ne _ _ _ _ _ (by omega), put_ne _ _ _ _ _ (by omega), put_ne _ _ _ _ _ (by omega), put_ne _ _ _ _ _ (by omega), put_ne _ _ _ _ _ (by omega), put_ne _ _ _ _ _ (by omega), put_ne _ _ _ _ _ (by omega), put_ne _ _ _ _ _ (by omega), put_ne _ _ _ _ _ (by omega), put_ne _ _ _ _ _ (by omega), put_ne _ _ _ _ _ (by omega)]
  have hr1 := H1.out.lt
  have ko := (Off.old (Off.old (Off.old (Off.old (Off.old (Off.old (Off.old (Off.old (Off.old (Off.old (Off.old (Off.old (Off.refl (fun k => k < wa.heap.size) w1) 0 (.int .i64 d.p.op) hr1) 1 (.string d.p.tb) hr1) 2 (.string d.p.co) hr1) 3 (.string d.p.to) hr1) 4 (.string d.p.key) hr1) 5 (.int .i64 d.p.tk) hr1) 6 (.int .i64 d.p.tm) hr1) 7 (.bool d.p.nl) hr1) 8 (.int .i64 d.p.dk) hr1) 9 (.int .i64 d.p.dn) hr1) 10 (.string d.p.ds) hr1) 11 (.slice d.A d.p.cols.length d.cap) hr1)
  obtain ⟨w2, hw2⟩ : ∃ w2, ((((((((((((w1.setCell ⟨w.heap.size, 0, none⟩ (.int .i64 d.p.op)).setCell ⟨w.heap.size, 1, none⟩ (.string d.p.tb)).setCell ⟨w.heap.size, 2, none⟩ (.string d.p.co)).setCell ⟨w.heap.size, 3, none⟩ (.string d.p.to)).setCell ⟨w.heap.size, 4, none⟩ (.string d.p.key)).setCell ⟨w.heap.size, 5, none⟩ (.int .i64 d.p.tk)).setCell ⟨w.heap.size, 6, none⟩ (.int .i64 d.p.tm)).setCell ⟨w.heap.size, 7, none⟩ (.bool d.p.nl)).setCell ⟨w.heap.size, 8, none⟩ (.int .i64 d.p.dk)).setCell ⟨w.heap.size, 9, none⟩ (.int .i64 d.p.dn)).setCell ⟨w.heap.size, 10, none⟩ (.string d.p.ds)).setCell ⟨w.heap.size, 11, none⟩ (.slice d.A d.p.cols.length d.cap)) = w2 := ⟨_, rfl⟩
  rw [hw2] at k1 k2 k3 kb kp ko ⊢
  clear hw2
  have HP2 : Hid (QBx 63 w2 (w.heap.size + 1 + 1 + 1) s a1) := ⟨kp.trans HP1.out.box, HP1.out.le, HT.out.below kb⟩
  have J1 : Hid (Bk 28 w2 w.heap.size [(.int .i64 d.p.op), (.string d.p.tb), (.string d.p.co), (.string d.p.to), (.string d.p.key), (.int .i64 d.p.tk), (.int .i64 d.p.tm), (.bool d.p.nl), (.int .i64 d.p.dk), (.int .i64 d.p.dn), (.string d.p.ds), (.slice d.A d.p.cols.length d.cap)]) := k1; have J2 := Lib.hid k2; have J3 := Lib.hid k3; have HB2 := Lib.hid kb
  have HO2 := Lib.hid ko
  clear k1 k2 k3 kb kp ko
  refine (qend_any _ s a1 _ HP2.out hs).mono ?_
  rintro en w3 ⟨hp, ho, ⟨hb, rfl⟩ | ⟨hb, rfl⟩⟩
  case inr =>
    have HP3 := Lib.hid hp
    have L1 := Lib.hid (J1.out.off ho (by omega)); have L2 := Lib.hid (J2.out.off ho (by omega)); have L3 := Lib.hid (J3.out.off ho (by omega))
    have HB3 : Hid (Below w.heap.size w w3) := HB2.out.trans (ho.below (fun k _ hk => by omega) HB2.out.size)
    have HR := Lib.hid (chg_extra HTo.out hb HP2.out.le)
    clear hp ho hb
    go_wp2_with fail
    refine leaves_cons (f := 30) (args := #[.pointer (some ⟨w.heap.size + 1 + 1 + 1, 0, none⟩), .pointer (some ⟨w.heap.size, 0, none⟩), .pointer (some ⟨w.heap.size + 1, 0, none⟩), .pointer (some ⟨w.heap.size + 1 + 1, 0, none⟩)]) (by simp) (by simp [go_sem]) ?_
    refine (catch_pan (w.heap.size + 1 + 1 + 1) w.heap.size (w.heap.size + 1) (w.heap.size + 1 + 1) (nb s a1) 6 s [] _ _ _ _ _ _ _ _ _ _ _ _ _ _ _ HP3.out.box L1.out L2.out L3.out (by omega) (by omega) (by omega) (by omega) (by omega) (by omega)).mono ?_
    rintro e u' w9 ⟨rfl, rfl, rfl⟩
    obtain ⟨k1, k2, k3, kb⟩ := caught_of (a := nb s a1) (e := 6) (B := w.heap.size) L1.out L2.out L3.out (by omega) (by omega) (by omega) (by omega) (by omega) (by omega)
    have hd : ∀ W : World, Below W.heap.size W W.drew := fun W => (Below.refl _ _).drew
    refine ⟨_, results_kP rfl _ rfl rfl rfl (k1.below (hd _)) (k2.below (hd _)) (k3.below (hd _)), ?_⟩
    exact ⟨(HB3.out.trans kb).drew, ⟨dp0 0 [], none, 0⟩, nb s a1, 6, rfl, fun hp => absurd hp (by simp [dp0]), by simp [dp0], HR.out⟩
  have HP3 := Lib.hid hp
  have L1 := Lib.hid (J1.out.off ho (by omega)); have L2 := Lib.hid (J2.out.off ho (by omega)); have L3 := Lib.hid (J3.out.off ho (by omega))
  have HB3 : Hid (Below w.heap.size w w3) := HB2.out.trans (ho.below (fun k _ hk => by omega) HB2.out.size)
  have HR := Lib.hid (chg_ok HTo.out hb)
  have Hnb : Hid (nb s a1 = s.size) := by show _ = _; unfold nb; rw [hb]; simp
  have HO3 : Hid (Off (fun k => k < wa.heap.size) w1 w3) := HO2.out.trans (ho.mono (fun k _ hk => by have := HP.out.lt; omega))
  clear hp ho hb
  obtain ⟨z0, z1⟩ := HP3.out.cells
  have c0 := L1.out.at 0 _ rfl; have q0 := L1.out.thaw 0
  have c1 := L1.out.at 1 _ rfl; have q1 := L1.out.thaw 1
  have c2 := L1.out.at 2 _ rfl; have q2 := L1.out.thaw 2
  have c3 := L1.out.at 3 _ rfl; have q3 := L1.out.thaw 3
  have c4 := L1.out.at 4 _ rfl; have q4 := L1.out.thaw 4
  have c5 := L1.out.at 5 _ rfl; have q5 := L1.out.thaw 5
  have c6 := L1.out.at 6 _ rfl; have q6 := L1.out.thaw 6
  have c7 := L1.out.at 7 _ rfl; have q7 := L1.out.thaw 7
  have c8 := L1.out.at 8 _ rfl; have q8 := L1.out.thaw 8
  have c9 := L1.out.at 9 _ rfl; have q9 := L1.out.thaw 9
  have c10 := L1.out.at 10 _ rfl; have q10 := L1.out.thaw 10
  have c11 := L1.out.at 11 _ rfl; have q11 := L1.out.thaw 11
  have g2 := L2.out.at 0 _ rfl; have t2 := L2.out.thaw 0; have g3 := L3.out.at 0 _ rfl; have t3 := L3.out.thaw 0
  go_wp2_with fail
  go_big_region
  clear z0 z1 g2 t2 g3 t3 c0 q0 c1 q1 c2 q2 c3 q3 c4 q4 c5 q5 c6 q6 c7 q7 c8 q8 c9 q9 c10 q10 c11 q11
  have hr2 := H2.out.lt
  have hr3 := H3.out.lt
  have k1 := ((((((((((((((L1.out.set 0 (.int .i64 d.p.op)).set 1 (.string d.p.tb)).set 2 (.string d.p.co)).set 3 (.string d.p.to)).set 4 (.string d.p.key)).set 5 (.int .i64 d.p.tk)).set 6 (.int .i64 d.p.tm)).set 7 (.bool d.p.nl)).set 8 (.int .i64 d.p.dk)).set 9 (.int .i64 d.p.dn)).set 10 (.string d.p.ds)).set 11 (.slice d.A d.p.cols.length d.cap)).put (w.heap.size + 1) 0 (.int .i64 ((nb s a1 : Nat) : Int)) (by omega)).put (w.heap.size + 1 + 1) 0 (.int .i64 0) (by omega))
  have k2 := ((((((((((((((L2.out.put w.heap.size 0 (.int .i64 d.p.op) (by omega)).put w.heap.size 1 (.string d.p.tb) (by omega)).put w.heap.size 2 (.string d.p.co) (by omega)).put w.heap.size 3 (.string d.p.to) (by omega)).put w.heap.size 4 (.string d.p.key) (by omega)).put w.heap.size 5 (.int .i64 d.p.tk) (by omega)).put w.heap.size 6 (.int .i64 d.p.tm) (by omega)).put w.heap.size 7 (.bool d.p.nl) (by omega)).put w.heap.size 8 (.int .i64 d.p.dk) (by omega)).put w.heap.size 9 (.int .i64 d.p.dn) (by omega)).put w.heap.size 10 (.string d.p.ds) (by omega)).put w.heap.size 11 (.slice d.A d.p.cols.length d.cap) (by omega)).set 0 (.int .i64 ((nb s a1 : Nat) : Int))).put (w.heap.size + 1 + 1) 0 (.int .i64 0) (by omega))
  have k3 := ((((((((((((((L3.out.put w.heap.size 0 (.int .i64 d.p.op) (by omega)).put w.heap.size 1 (.string d.p.tb) (by omega)).put w.heap.size 2 (.string d.p.co) (by omega)).put w.heap.size 3 (.string d.p.to) (by omega)).put w.heap.size 4 (.string d.p.key) (by omega)).put w.heap.size 5 (.int .i64 d.p.tk) (by omega)).put w.heap.size 6 (.int .i64 d.p.tm) (by omega)).put w.heap.size 7 (.bool d.p.nl) (by omega)).put w.heap.size 8 (.int .i64 d.p.dk) (by omega)).put w.heap.size 9 (.int .i64 d.p.dn) (by omega)).put w.heap.size 10 (.string d.p.ds) (by omega)).put w.heap.size 11 (.slice d.A d.p.cols.length d.cap) (by omega)).put (w.heap.size + 1) 0 (.int .i64 ((nb s a1 : Nat) : Int)) (by omega)).set 0 (.int .i64 0))
  have kb := (Below.put (Below.put (Below.put (Below.put (Below.put (Below.put (Below.put (Below.put (Below.put (Below.put (Below.put (Below.put (Below.put (Below.put HB3.out w.heap.size 0 (.int .i64 d.p.op) (Nat.le_refl _)) w.heap.size 1 (.string d.p.tb) (Nat.le_refl _)) w.heap.size 2 (.string d.p.co) (Nat.le_refl _)) w.heap.size 3 (.string d.p.to) (Nat.le_refl _)) w.heap.size 4 (.string d.p.key) (Nat.le_refl _)) w.heap.size 5 (.int .i64 d.p.tk) (Nat.le_refl _)) w.heap.size 6 (.int .i64 d.p.tm) (Nat.le_refl _)) w.heap.size 7 (.bool d.p.nl) (Nat.le_refl _)) w.heap.size 8 (.int .i64 d.p.dk) (Nat.le_refl _)) w.heap.size 9 (.int .i64 d.p.dn) (Nat.le_refl _)) w.heap.size 10 (.string d.p.ds) (Nat.le_refl _)) w.heap.size 11 (.slice d.A d.p.cols.length d.cap) (Nat.le_refl _)) (w.heap.size + 1) 0 (.int .i64 ((nb s a1 : Nat) : Int)) (by omega)) (w.heap.size + 1 + 1) 0 (.int .i64 0) (by omega))
  have ko := (Off.old (Off.old (Off.old (Off.old (Off.old (Off.old (Off.old (Off.old (Off.old (Off.old (Off.old (Off.old (Off.old (Off.old HO3.out 0 (.int .i64 d.p.op) hr1) 1 (.string d.p.tb) hr1) 2 (.string d.p.co) hr1) 3 (.string d.p.to) hr1) 4 (.string d.p.key) hr1) 5 (.int .i64 d.p.tk) hr1) 6 (.int .i64 d.p.tm) hr1) 7 (.bool d.p.nl) hr1) 8 (.int .i64 d.p.dk) hr1) 9 (.int .i64 d.p.dn) hr1) 10 (.string d.p.ds) hr1) 11 (.slice d.A d.p.cols.length d.cap) hr1) 0 (.int .i64 ((nb s a1 : Nat) : Int)) hr2) 0 (.int .i64 0) hr3)
  obtain ⟨w4, hw4⟩ : ∃ w4, ((((((((((((((w3.setCell ⟨w.heap.size, 0, none⟩ (.int .i64 d.p.op)).setCell ⟨w.heap.size, 1, none⟩ (.string d.p.tb)).setCell ⟨w.heap.size, 2, none⟩ (.string d.p.co)).setCell ⟨w.heap.size, 3, none⟩ (.string d.p.to)).setCell ⟨w.heap.size, 4, none⟩ (.string d.p.key)).setCell ⟨w.heap.size, 5, none⟩ (.int .i64 d.p.tk)).setCell ⟨w.heap.size, 6, none⟩ (.int .i64 d.p.tm)).setCell ⟨w.heap.size, 7, none⟩ (.bool d.p.nl)).setCell ⟨w.heap.size, 8, none⟩ (.int .i64 d.p.dk)).setCell ⟨w.heap.size, 9, none⟩ (.int .i64 d.p.dn)).setCell ⟨w.heap.size, 10, none⟩ (.string d.p.ds)).setCell ⟨w.heap.size, 11, none⟩ (.slice d.A d.p.cols.length d.cap)).setCell ⟨w.heap.size + 1, 0, none⟩ (.int .i64 ((nb s a1 : Nat) : Int))).setCell ⟨w.heap.size + 1 + 1, 0, none⟩ (.int .i64 0)) = w4 := ⟨_, rfl⟩
  rw [hw4] at k1 k2 k3 kb ko ⊢
  clear hw4
  rw [Hnb.out] at k2
  have kz := w4.drew
  have hd : ∀ W : World, Below W.heap.size W W.drew := fun W => (Below.refl _ _).drew
  have hda : DdlAt w4.drew w4.drew.heap.size d := by
    have h1 : RowAt 8 fC w4 w1.heap.size d.A d.p.cols := RowAt.off HD.out ko (fun p hp => by have := HA.out p hp; have := hr1; omega)
    exact (h1.more ko.size).to (hd w4)
  have Hk1 : Hid (Bk 28 w4.drew w.heap.size [(.int .i64 d.p.op), (.string d.p.tb), (.string d.p.co), (.string d.p.to), (.string d.p.key), (.int .i64 d.p.tk), (.int .i64 d.p.tm), (.bool d.p.nl), (.int .i64 d.p.dk), (.int .i64 d.p.dn), (.string d.p.ds), (.slice d.A d.p.cols.length d.cap)]) := k1.below (hd w4)
  have Hk2 : Hid (Bk 3 w4.drew (w.heap.size + 1) [.int .i64 ((s.size : Nat) : Int)]) := k2.below (hd w4)
  have Hk3 : Hid (Bk 31 w4.drew (w.heap.size + 1 + 1) [.int .i64 ((0 : Nat) : Int)]) := k3.below (hd w4)
  have Hkb := Lib.hid kb; have Hda := Lib.hid hda; have Hd := Lib.hid hd
  clear k1 k2 k3 kb hda hd ko kz
  rename_i K1 hK1
  refine hK1 _ _ ?_
  refine wp_ret ?_
  refine leaves_cons (f := 30) (args := #[.pointer (some ⟨w.heap.size + 1 + 1 + 1, 0, none⟩), .pointer (some ⟨w.heap.size, 0, none⟩), .pointer (some ⟨w.heap.size + 1, 0, none⟩), .pointer (some ⟨w.heap.size + 1 + 1, 0, none⟩)]) (by simp) (by simp [go_sem]) ?_
  refine (catch_not _ _ _ _ _).mono ?_
  rintro e u' w9 ⟨rfl, rfl, rfl⟩
  refine ⟨_, results_kP rfl _ rfl rfl rfl Hk1.out Hk2.out Hk3.out, ?_⟩
  exact ⟨Hkb.out.drew, d, s.size, 0, rfl, Hda.out, HL.out, HR.out⟩
end Go.Proofs.YtebldfnocpcddaaGreatDoor
