/-
  Texts that the proof needs, one behind the other: DtxRP7C, DtxRC0, DtxRC1, DtxRC2, DtxRC3, DtxRC5.
-/
import Derived.Test.YtebldfnocpcddaaGreatDoorPart28
import Derived.Test.YtebldfnocpcddaaGreatDoorPart29

/-
  The document's own parser of changes (layer 10): which change a word begins; how changes end.
-/
namespace Go.Proofs.YtebldfnocpcddaaGreatDoor
open Go.RowKit

theorem opW_is {l : List UInt8} {k : Nat} (h : 1 ≤ k ∧ k ≤ 8) (he : l = opT k) : opW l = k := by rw [he]; exact (opT_wrd h).2
set_option maxRecDepth 100000 in
set_option maxHeartbeats 1600000 in
theorem rop_any (y : ByteArray) (w : World) :
    Calls Tryz.prog 61 #[.string y] w fun en w' => en = .returned (.int .i64 ((opW (bs y) : Nat) : Int)) ∧ Below w.heap.size w w' := by
  obtain ⟨w0, hw0⟩ : ∃ w0, w.alloc (.cells #[.string ⟨#[99, 114, 101, 97, 116, 101]⟩, .string ⟨#[100, 114, 111, 112]⟩, .string ⟨#[114, 101, 110, 97, 109, 101]⟩, .string ⟨#[97, 100, 100]⟩, .string ⟨#[99, 117, 116]⟩, .string ⟨#[99, 97, 108, 108]⟩, .string ⟨#[119, 105, 100, 101, 110]⟩, .string ⟨#[112, 114, 101, 115, 101, 116]⟩] 9) = w0 := ⟨_, rfl⟩
  have hb0 : Below w.heap.size w w0 := by rw [← hw0]; exact (Below.refl _ _).alloc (Nat.le_refl _) _
  have hc : Hid (∀ k, k < 8 → w0.cell? ⟨w.heap.size, k, none⟩ = some (.string (opB (k + 1)))) := by
    intro k hk
    have hbk : w0.heap[w.heap.size]? = some (.cells #[.string ⟨#[99, 114, 101, 97, 116, 101]⟩, .string ⟨#[100, 114, 111, 112]⟩, .string ⟨#[114, 101, 110, 97, 109, 101]⟩, .string ⟨#[97, 100, 100]⟩, .string ⟨#[99, 117, 116]⟩, .string ⟨#[99, 97, 108, 108]⟩, .string ⟨#[119, 105, 100, 101, 110]⟩, .string ⟨#[112, 114, 101, 115, 101, 116]⟩] 9 (0, 0)) := by rw [← hw0]; exact heap_alloc_new w _
    rw [cell_of_row w0 w.heap.size k _ _ (0, 0) hbk]
    match k, hk with
    | 0, _ => rfl
    | 1, _ => rfl
    | 2, _ => rfl
    | 3, _ => rfl
    | 4, _ => rfl
    | 5, _ => rfl
    | 6, _ => rfl
    | 7, _ => rfl
  have Hw0 := Lib.hid hw0; have Hb0 := Lib.hid hb0; clear hw0 hb0
  go_enter Tryz.func61, Tryz.ntmps61
  go_wp2_with fail
  rw [Hw0.out]
  go_loopw [4] (fun i wr => ∃ k : Nat, k ≤ 8 ∧ i = .int .i64 (k : Int) ∧ Hid (wr = w0) ∧ Hid (∀ j, 1 ≤ j → j < k + 1 → bs y ≠ opT j)) (fun i _ => 8 - (intOf i).toNat)
  case atStart => exact ⟨0, by omega, rfl, rfl, fun j h1 h2 => absurd h1 (by omega)⟩
  case round =>
    obtain ⟨k, hk8, rfl, hwr, Hno⟩ := hrel
    obtain rfl := hwr.out
    clear hwr
    by_cases hlt : k < 8
    · have hltI : (k : Int) < 8 := by omega
      have h0k : (0 : Int) ≤ (k : Int) := by omega
      have ck := hc.out k hlt
      have hw1 : IntKind.i64.wrap ((k : Int) + 1) = (k : Int) + 1 := IntWalk.i64_in _ (by omega)
      by_cases he : bs y = opT (k + 1)
      · have t1 : ((opB (k + 1)).toList == y.toList) = true := eqS' (by rw [he]; rfl)
        have Ho : Hid (opW (bs y) = k + 1) := opW_is (by omega) he
        clear he
        go_wp2_with fail
        go_ret
        exact ⟨by rw [Ho.out]; rfl, Hb0.out⟩
      · have t1 : ((opB (k + 1)).toList == y.toList) = false := neS (fun h => he (h.symm.trans rfl))
        have Hne := Lib.hid he
        clear he
        go_wp2_with fail
        go_roundw
        case rel =>
          refine ⟨k + 1, by omega, by go_num, trivial, fun j h1 h2 => ?_⟩
          by_cases hj : j = k + 1
          · subst hj; exact Hne.out
          · exact Hno.out j h1 (by omega)
        case measure => simp [intOf]; omega
    · obtain rfl : k = 8 := by omega
      have Ho : Hid (opW (bs y) = 0) := opW_no fun j h1 h2 => Hno.out j h1 h2
      have hnl : ¬ ((8 : Int) < 8) := by omega
      go_wp2_with fail
      go_ret
      exact ⟨by rw [Ho.out]; rfl, Hb0.out⟩
/-- the same parser from another place -/
theorem PTo.at {α : Type} {m m' : List UInt8 → Except Er (α × List UInt8)} {s : ByteArray} {a a1 a' e' : Nat} {x : α} (h : PTo m s a1 0 x a' e') (hm : m' ((bs s).drop a) = m ((bs s).drop a1)) : PTo m' s a 0 x a' e' := by
  obtain ⟨l, h⟩ := h
  refine ⟨l, ?_⟩
  rw [hm]
  rcases h with ⟨h, _⟩ | h
  · exact absurd rfl h
  · exact .inr h
/-- behind a parser without an answer -/
theorem PTo.sequ {β : Type} {m : List UInt8 → Except Er (List UInt8)} {f : List UInt8 → Except Er (β × List UInt8)} {s : ByteArray} {a e a1 e1 a2 e2 : Nat} {z : Unit} {y : β} (h1 : PTo (fun r => (m r).bind fun q => .ok ((), q)) s a e z a1 e1) (h2 : PTo f s a1 e1 y a2 e2) : PTo (fun r => (m r).bind f) s a e y a2 e2 := by
  have h3 := PTo.seq (f := fun x : Unit × List UInt8 => f x.2) h1 h2
  refine h3.of_eq ?_
  show ((m ((bs s).drop a)).bind fun q => Except.ok ((), q)).bind _ = _
  cases m ((bs s).drop a) with
  | error e => rfl
  | ok q => rfl
/-- how a change ends -/
def RChg (b : Nat) (s : ByteArray) (a : Nat) (w : World) (en : Ending) (w' : World) : Prop :=
  ∃ (d : Db) (a' e' : Nat), en = .returned (DV d) ∧ DdlAt w' w'.heap.size d ∧ PBx 67 w' b s a' e' ∧ Off (fun k => k = b) w w' ∧ PTo pChange s a 0 d.p a' e' ∧ d.p.cols.length ≤ 10 ∧ ∀ p : Addr, d.A = some p → w.heap.size ≤ p.block
/-- a change, once its word and its table's name are read -/
theorem chg_seq {s : ByteArray} {a a1 a2 e2 a' e' o : Nat} {n : List UInt8} {x : Dp} (_ : nb s a ≤ s.size) (hb : bl ((bs s).drop a) = (bs s).drop (nb s a)) (ho : opW (wd ((bs s).drop (nb s a))) = o) (h0 : o ≠ 0) (h1 : a1 = nb s a + (wd ((bs s).drop (nb s a))).length)
    (hn : PTo pName s a1 0 n a2 e2) (hr : PTo (pRest o n) s a2 e2 x a' e') : PTo pChange s a 0 x a' e' := by
  refine (PTo.seq (f := fun t => pRest o t.1 t.2) hn hr).at ?_
  unfold pChange
  rw [hb, ho, if_neg h0, h1, drop_more]
theorem rchg_no {s : ByteArray} {a : Nat} (ha : a ≤ s.size) (ho : opW (wd ((bs s).drop (nb s a))) = 0) (x : Dp) : PTo pChange s a 0 x (nb s a) 5 := by
  have hb := (nb_drop ha).symm
  refine ⟨(nb_le ha).2, .inr ⟨rfl, .inr ⟨by decide, ?_⟩⟩⟩
  unfold pChange
  rw [hb, ho, if_pos rfl]
/-- what stands behind the table's name, by the kind of change -/
theorem rest_1 {s : ByteArray} {a e a1 e1 a2 e2 a3 e3 : Nat} {tb n : List UInt8} {l : List Cb} {z : Unit} (h1 : PTo pColsP s a e l a1 e1) (h2 : PTo (fun r => (pWord keyT r).bind fun q => .ok ((), q)) s a1 e1 z a2 e2) (h3 : PTo pName s a2 e2 n a3 e3) : PTo (pRest 1 tb) s a e { dp0 1 tb with cols := l, key := strB n } a3 e3 := by
  refine PTo.of_eq (m := fun r => (pColsP r).bind fun c => (pWord keyT c.2).bind fun r => (pName r).bind fun k => .ok ({ dp0 1 tb with cols := c.1, key := strB k.1 }, k.2)) ?_ (pRest_1 tb _).symm
  exact PTo.seq h1 (PTo.sequ (m := pWord keyT) h2 (PTo.map (fun n => ({ dp0 1 tb with cols := l, key := strB n } : Dp)) h3))
theorem rest_3 {s : ByteArray} {a e a1 e1 a2 e2 : Nat} {tb n : List UInt8} {z : Unit} (h1 : PTo (fun r => (pWord toT r).bind fun q => .ok ((), q)) s a e z a1 e1) (h2 : PTo pName s a1 e1 n a2 e2) : PTo (pRest 3 tb) s a e { dp0 3 tb with «to» := strB n } a2 e2 := by
  refine PTo.of_eq (m := fun r => (pWord toT r).bind fun r => (pName r).bind fun n => .ok ({ dp0 3 tb with «to» := strB n.1 }, n.2)) ?_ (pRest_3 tb _).symm
  exact PTo.sequ (m := pWord toT) h1 (PTo.map (fun n => ({ dp0 3 tb with «to» := strB n } : Dp)) h2)
theorem rest_4 {s : ByteArray} {a e a1 e1 : Nat} {tb : List UInt8} {c : Cb} (h1 : PTo pCol s a e c a1 e1) : PTo (pRest 4 tb) s a e { dp0 4 tb with co := c.nm, tk := c.tk, tm := c.tm, nl := c.nl, dk := c.dk, dn := c.dn, ds := c.ds } a1 e1 := by
  refine PTo.of_eq (m := fun r => (pCol r).bind fun c => .ok ({ dp0 4 tb with co := c.1.nm, tk := c.1.tk, tm := c.1.tm, nl := c.1.nl, dk := c.1.dk, dn := c.1.dn, ds := c.1.ds }, c.2)) ?_ (pRest_4 tb _).symm
  exact PTo.map (fun c => ({ dp0 4 tb with co := c.nm, tk := c.tk, tm := c.tm, nl := c.nl, dk := c.dk, dn := c.dn, ds := c.ds } : Dp)) h1
theorem rest_5 {s : ByteArray} {a e a1 e1 : Nat} {tb n : List UInt8} (h1 : PTo pName s a e n a1 e1) : PTo (pRest 5 tb) s a e { dp0 5 tb with co := strB n } a1 e1 := by
  refine PTo.of_eq (m := fun r => (pName r).bind fun n => .ok ({ dp0 5 tb with co := strB n.1 }, n.2)) ?_ (pRest_5 tb _).symm
  exact PTo.map (fun n => ({ dp0 5 tb with co := strB n } : Dp)) h1
theorem rest_6 {s : ByteArray} {a e a1 e1 a2 e2 a3 e3 : Nat} {tb n m : List UInt8} {z : Unit} (h1 : PTo pName s a e n a1 e1) (h2 : PTo (fun r => (pWord toT r).bind fun q => .ok ((), q)) s a1 e1 z a2 e2) (h3 : PTo pName s a2 e2 m a3 e3) : PTo (pRest 6 tb) s a e { dp0 6 tb with co := strB n, «to» := strB m } a3 e3 := by
  refine PTo.of_eq (m := fun r => (pName r).bind fun n => (pWord toT n.2).bind fun r => (pName r).bind fun m => .ok ({ dp0 6 tb with co := strB n.1, «to» := strB m.1 }, m.2)) ?_ (pRest_6 tb _).symm
  exact PTo.seq h1 (PTo.sequ (m := pWord toT) h2 (PTo.map (fun m => ({ dp0 6 tb with co := strB n, «to» := strB m } : Dp)) h3))
theorem rest_7 {s : ByteArray} {a e a1 e1 a2 e2 : Nat} {tb n : List UInt8} {t : Int × Int} (h1 : PTo pName s a e n a1 e1) (h2 : PTo pKind s a1 e1 t a2 e2) : PTo (pRest 7 tb) s a e { dp0 7 tb with co := strB n, tk := t.1, tm := t.2 } a2 e2 := by
  refine PTo.of_eq (m := fun r => (pName r).bind fun n => (pKind n.2).bind fun t => .ok ({ dp0 7 tb with co := strB n.1, tk := t.1.1, tm := t.1.2 }, t.2)) ?_ (pRest_7 tb _).symm
  exact PTo.seq h1 (PTo.map (fun t => ({ dp0 7 tb with co := strB n, tk := t.1, tm := t.2 } : Dp)) h2)
theorem rest_8 {s : ByteArray} {a e a1 e1 a2 e2 : Nat} {tb n : List UInt8} {v : Val} (h1 : PTo pName s a e n a1 e1) (h2 : PTo (pVal true) s a1 e1 v a2 e2) : PTo (pRest 8 tb) s a e { dp0 8 tb with co := strB n, dk := v.1, dn := v.2.1, ds := strB v.2.2 } a2 e2 := by
  refine PTo.of_eq (m := fun r => (pName r).bind fun n => (pVal true n.2).bind fun v => .ok ({ dp0 8 tb with co := strB n.1, dk := v.1.1, dn := v.1.2.1, ds := strB v.1.2.2 }, v.2)) ?_ (pRest_8 tb _).symm
  exact PTo.seq h1 (PTo.map (fun v => ({ dp0 8 tb with co := strB n, dk := v.1, dn := v.2.1, ds := strB v.2.2 } : Dp)) h2)
theorem rest_2 {s : ByteArray} {a e : Nat} {tb : List UInt8} (ha : a ≤ s.size) : PTo (pRest 2 tb) s a e (dp0 2 tb) a e := by
  refine ⟨ha, ?_⟩
  by_cases he : e = 0
  · exact .inr ⟨he, .inl ⟨he, rfl⟩⟩
  · exact .inl ⟨he, rfl, rfl⟩
end Go.Proofs.YtebldfnocpcddaaGreatDoor

/-
  The document's own parser of changes (layer 10): no change at all.
-/
namespace Go.Proofs.YtebldfnocpcddaaGreatDoor
open Go.RowKit

set_option maxRecDepth 100000 in
set_option maxHeartbeats 12800000 in
theorem rchg0_any (b : Nat) (s : ByteArray) (a : Nat) (w : World) (h : PBx 67 w b s a 0) (ha : a ≤ s.size) (hs : s.size ≤ 1000000) (hop : opW (wd ((bs s).drop (nb s a))) = 0) :
    Calls Tryz.prog 33 #[.pointer (some ⟨b, 0, none⟩)] w fun en w' => RChg b s a w en w' := by
  have hlt := h.lt
  have hne : b ≠ w.heap.size := by omega
  obtain ⟨wa, hwa⟩ : ∃ wa, w.alloc (.cells [(.int .i64 0), (.string ⟨#[]⟩), (.string ⟨#[]⟩), (.string ⟨#[]⟩), (.string ⟨#[]⟩), (.int .i64 0), (.int .i64 0), (.bool false), (.int .i64 0), (.int .i64 0), (.string ⟨#[]⟩), (.slice none 0 0)].toArray 28) = wa := ⟨_, rfl⟩
  have hba : Below w.heap.size w wa := by rw [← hwa]; exact (Below.refl _ _).alloc (Nat.le_refl _) _
  have HR0 : Hid (Bk 28 wa w.heap.size [(.int .i64 0), (.string ⟨#[]⟩), (.string ⟨#[]⟩), (.string ⟨#[]⟩), (.string ⟨#[]⟩), (.int .i64 0), (.int .i64 0), (.bool false), (.int .i64 0), (.int .i64 0), (.string ⟨#[]⟩), (.slice none 0 0)]) := by rw [← hwa]; exact Bk.new w _ _
  have hsa : wa.heap.size = w.heap.size + 1 := by rw [← hwa]; simp
  have Hwa := Lib.hid hwa; clear hwa
  have HO0 := Lib.hid (Off.of_below (S := fun k => k = b) hba)
  have HP0 := Lib.hid (h.below hba); clear hba h
  obtain ⟨y, hy⟩ : ∃ y, bs y = wd ((bs s).drop (nb s a)) := ⟨strB _, rfl⟩
  have hle := wd_len (nb_le ha).2
  rw [← hy, bs_length] at hle
  have HB := Lib.hid (rpeek_any b s a 0 y wa HP0.out ha hs hy)
  have Hnb : Hid (nbE s a 0 = nb s a) := rfl
  have HQ : Hid (∀ w, Calls Tryz.prog 61 #[.string y] w fun en w' => en = .returned (.int .i64 0) ∧ Below w.heap.size w w') := fun w => by
    have := rop_any y w
    rw [hy, hop] at this
    exact this
  have HCH : Hid (PTo pChange s a 0 (dp0 0 []) (nb s a) 5) := rchg_no ha hop _
  have Hle1 := Lib.hid hle
  have w1 : IntKind.i64.wrap (((nb s a : Nat) : Int) + (y.size : Int)) = ((nb s a + y.size : Nat) : Int) := by rw [IntWalk.i64_in _ (by omega)]; rfl
  clear hy hop hle
  go_enter Tryz.func33, Tryz.ntmps33
  go_wp2_with fail
  rw [Hwa.out]
  refine HB.out.mono ?_
  rintro en w1 ⟨rfl, hp, ho⟩
  rw [Hnb.out] at hp
  have HP1 := Lib.hid hp; have HO1 := Lib.hid (HO0.out.trans ho); have HR1 := Lib.hid (HR0.out.off ho (fun h => hne h.symm))
  have hsz : w.heap.size + 1 ≤ w1.heap.size := by rw [← hsa]; exact ho.size
  clear hp ho
  go_wp2_with fail
  refine (HQ.out _).mono ?_
  rintro en w2 ⟨rfl, hb⟩
  have HP2 := Lib.hid (HP1.out.below hb); have HO2 := Lib.hid (HO1.out.then hb); have HR2 := Lib.hid (HR1.out.below hb)
  have hsz2 := hb.size
  clear hb
  obtain ⟨J, hJ⟩ : ∃ J, w2.heap.size = J := ⟨_, rfl⟩
  obtain ⟨w3, hw3⟩ : ∃ w3, w2.alloc (.cells [(.int .i64 0), (.string ⟨#[]⟩), (.string ⟨#[]⟩), (.string ⟨#[]⟩), (.string ⟨#[]⟩), (.int .i64 0), (.int .i64 0), (.bool false), (.int .i64 0), (.int .i64 0), (.string ⟨#[]⟩), (.slice none 0 0)].toArray 28) = w3 := ⟨_, rfl⟩
  have hb3 : Below w2.heap.size w2 w3 := by rw [← hw3]; exact (Below.refl _ _).alloc (Nat.le_refl _) _
  have HJ3 : Hid (Bk 28 w3 J [(.int .i64 0), (.string ⟨#[]⟩), (.string ⟨#[]⟩), (.string ⟨#[]⟩), (.string ⟨#[]⟩), (.int .i64 0), (.int .i64 0), (.bool false), (.int .i64 0), (.int .i64 0), (.string ⟨#[]⟩), (.slice none 0 0)]) := by rw [← hw3, ← hJ]; exact Bk.new w2 _ _
  have HP3 := Lib.hid (HP2.out.below hb3); have HO3 := Lib.hid (HO2.out.then hb3); have HR3 := Lib.hid (HR2.out.below hb3)
  have hrJ : J ≠ w.heap.size := by omega
  have hnJ : b ≠ J := by have := HP2.out.lt; omega
  have hwJ : w.heap.size ≤ J := by omega
  have hJb : J ≠ b := fun e => hnJ e.symm
  have hrb : w.heap.size ≠ b := fun e => hne e.symm
  have HJe := Lib.hid hJ
  have Hw3 := Lib.hid hw3; clear hw3 hb3
  go_upto_region 3 with fail
  rw [Hw3.out]
  try rw [HJe.out]
  obtain ⟨c0, c1, c2⟩ := HP3.out.cells
  have f1 := HP3.out.frozen 1
  have d0 := HJ3.out.at 0 _ rfl
  clear hsz hsz2 hJ hsa
  go_wp2_with fail
  refine (rbad_any b s (nb s a) 0 5 _ HP3.out).mono ?_
  rintro en w4 ⟨rfl, hp, ho⟩
  have HP4 := Lib.hid hp; have HO4 := Lib.hid (HO3.out.trans ho); have HR4 := Lib.hid (HR3.out.off ho hrb); have HJ4 := Lib.hid (HJ3.out.off ho hJb)
  clear hp ho c0 c1 c2 f1 d0
  have d0 := HJ4.out.at 0 _ rfl; have r0 := HR4.out.at 0 _ rfl; have p0 := HR4.out.thaw 0
  have d1 := HJ4.out.at 1 _ rfl; have r1 := HR4.out.at 1 _ rfl; have p1 := HR4.out.thaw 1
  have d2 := HJ4.out.at 2 _ rfl; have r2 := HR4.out.at 2 _ rfl; have p2 := HR4.out.thaw 2
  have d3 := HJ4.out.at 3 _ rfl; have r3 := HR4.out.at 3 _ rfl; have p3 := HR4.out.thaw 3
  have d4 := HJ4.out.at 4 _ rfl; have r4 := HR4.out.at 4 _ rfl; have p4 := HR4.out.thaw 4
  have d5 := HJ4.out.at 5 _ rfl; have r5 := HR4.out.at 5 _ rfl; have p5 := HR4.out.thaw 5
  have d6 := HJ4.out.at 6 _ rfl; have r6 := HR4.out.at 6 _ rfl; have p6 := HR4.out.thaw 6
  have d7 := HJ4.out.at 7 _ rfl; have r7 := HR4.out.at 7 _ rfl; have p7 := HR4.out.thaw 7
  have d8 := HJ4.out.at 8 _ rfl; have r8 := HR4.out.at 8 _ rfl; have p8 := HR4.out.thaw 8
  have d9 := HJ4.out.at 9 _ rfl; have r9 := HR4.out.at 9 _ rfl; have p9 := HR4.out.thaw 9
  have d10 := HJ4.out.at 10 _ rfl; have r10 := HR4.out.at 10 _ rfl; have p10 := HR4.out.thaw 10
  have d11 := HJ4.out.at 11 _ rfl; have r11 := HR4.out.at 11 _ rfl; have p11 := HR4.out.thaw 11
  go_wp2_with fail
  refine bodyPost_ret (results_kD rfl _ rfl ((((((((((((HR4.out.set 0 (.int .i64 0)).set 1 (.string ⟨#[]⟩)).set 2 (.string ⟨#[]⟩)).set 3 (.string ⟨#[]⟩)).set 4 (.string ⟨#[]⟩)).set 5 (.int .i64 0)).set 6 (.int .i64 0)).set 7 (.bool false)).set 8 (.int .i64 0)).set 9 (.int .i64 0)).set 10 (.string ⟨#[]⟩)).set 11 (.slice none 0 0))) rfl ?_
  exact ⟨⟨dp0 0 [], none, 0⟩, (nb s a), 5, rfl, fun hp => absurd hp (by simp [dp0]), ((((((((((((HP4.out.put w.heap.size 0 (.int .i64 0) hrb).put w.heap.size 1 (.string ⟨#[]⟩) hrb).put w.heap.size 2 (.string ⟨#[]⟩) hrb).put w.heap.size 3 (.string ⟨#[]⟩) hrb).put w.heap.size 4 (.string ⟨#[]⟩) hrb).put w.heap.size 5 (.int .i64 0) hrb).put w.heap.size 6 (.int .i64 0) hrb).put w.heap.size 7 (.bool false) hrb).put w.heap.size 8 (.int .i64 0) hrb).put w.heap.size 9 (.int .i64 0) hrb).put w.heap.size 10 (.string ⟨#[]⟩) hrb).put w.heap.size 11 (.slice none 0 0) hrb), ((((((((((((HO4.out.put w.heap.size 0 (.int .i64 0) (Nat.le_refl _)).put w.heap.size 1 (.string ⟨#[]⟩) (Nat.le_refl _)).put w.heap.size 2 (.string ⟨#[]⟩) (Nat.le_refl _)).put w.heap.size 3 (.string ⟨#[]⟩) (Nat.le_refl _)).put w.heap.size 4 (.string ⟨#[]⟩) (Nat.le_refl _)).put w.heap.size 5 (.int .i64 0) (Nat.le_refl _)).put w.heap.size 6 (.int .i64 0) (Nat.le_refl _)).put w.heap.size 7 (.bool false) (Nat.le_refl _)).put w.heap.size 8 (.int .i64 0) (Nat.le_refl _)).put w.heap.size 9 (.int .i64 0) (Nat.le_refl _)).put w.heap.size 10 (.string ⟨#[]⟩) (Nat.le_refl _)).put w.heap.size 11 (.slice none 0 0) (Nat.le_refl _)), HCH.out, by simp [dp0], fun p hp => by cases hp⟩
end Go.Proofs.YtebldfnocpcddaaGreatDoor

/-
  The document's own parser of changes (layer 10): a change of kind 1.
-/
namespace Go.Proofs.YtebldfnocpcddaaGreatDoor
open Go.RowKit

set_option maxRecDepth 100000 in
set_option maxHeartbeats 12800000 in
theorem rchg1_any (b : Nat) (s : ByteArray) (a : Nat) (w : World) (h : PBx 67 w b s a 0) (ha : a ≤ s.size) (hs : s.size ≤ 1000000) (hop : opW (wd ((bs s).drop (nb s a))) = 1) :
    Calls Tryz.prog 33 #[.pointer (some ⟨b, 0, none⟩)] w fun en w' => RChg b s a w en w' := by
  have hlt := h.lt
  have hne : b ≠ w.heap.size := by omega
  obtain ⟨wa, hwa⟩ : ∃ wa, w.alloc (.cells [(.int .i64 0), (.string ⟨#[]⟩), (.string ⟨#[]⟩), (.string ⟨#[]⟩), (.string ⟨#[]⟩), (.int .i64 0), (.int .i64 0), (.bool false), (.int .i64 0), (.int .i64 0), (.string ⟨#[]⟩), (.slice none 0 0)].toArray 28) = wa := ⟨_, rfl⟩
  have hba : Below w.heap.size w wa := by rw [← hwa]; exact (Below.refl _ _).alloc (Nat.le_refl _) _
  have HR0 : Hid (Bk 28 wa w.heap.size [(.int .i64 0), (.string ⟨#[]⟩), (.string ⟨#[]⟩), (.string ⟨#[]⟩), (.string ⟨#[]⟩), (.int .i64 0), (.int .i64 0), (.bool false), (.int .i64 0), (.int .i64 0), (.string ⟨#[]⟩), (.slice none 0 0)]) := by rw [← hwa]; exact Bk.new w _ _
  have hsa : wa.heap.size = w.heap.size + 1 := by rw [← hwa]; simp
  have Hwa := Lib.hid hwa; clear hwa
  have HO0 := Lib.hid (Off.of_below (S := fun k => k = b) hba)
  have HP0 := Lib.hid (h.below hba); clear hba h
  obtain ⟨y, hy⟩ : ∃ y, bs y = wd ((bs s).drop (nb s a)) := ⟨strB _, rfl⟩
  have hle := wd_len (nb_le ha).2
  rw [← hy, bs_length] at hle
  have HB := Lib.hid (rpeek_any b s a 0 y wa HP0.out ha hs hy)
  have Hnb : Hid (nbE s a 0 = nb s a) := rfl
  have HQ : Hid (∀ w, Calls Tryz.prog 61 #[.string y] w fun en w' => en = .returned (.int .i64 1) ∧ Below w.heap.size w w') := fun w => by
    have := rop_any y w
    rw [hy, hop] at this
    exact this
  have HCH : Hid (∀ {n a2 e2 x a' e'}, PTo pName s (nb s a + y.size) 0 n a2 e2 → PTo (pRest 1 n) s a2 e2 x a' e' → PTo pChange s a 0 x a' e') := fun h1 h2 => chg_seq (nb_le ha).2 (nb_drop ha).symm hop (by decide) (by rw [← hy, bs_length]) h1 h2
  have Hle1 := Lib.hid hle
  have w1 : IntKind.i64.wrap (((nb s a : Nat) : Int) + (y.size : Int)) = ((nb s a + y.size : Nat) : Int) := by rw [IntWalk.i64_in _ (by omega)]; rfl
  clear hy hop hle
  go_enter Tryz.func33, Tryz.ntmps33
  go_wp2_with fail
  rw [Hwa.out]
  refine HB.out.mono ?_
  rintro en w1 ⟨rfl, hp, ho⟩
  rw [Hnb.out] at hp
  have HP1 := Lib.hid hp; have HO1 := Lib.hid (HO0.out.trans ho); have HR1 := Lib.hid (HR0.out.off ho (fun h => hne h.symm))
  have hsz : w.heap.size + 1 ≤ w1.heap.size := by rw [← hsa]; exact ho.size
  clear hp ho
  go_wp2_with fail
  refine (HQ.out _).mono ?_
  rintro en w2 ⟨rfl, hb⟩
  have HP2 := Lib.hid (HP1.out.below hb); have HO2 := Lib.hid (HO1.out.then hb); have HR2 := Lib.hid (HR1.out.below hb)
  have hsz2 := hb.size
  clear hb
  obtain ⟨J, hJ⟩ : ∃ J, w2.heap.size = J := ⟨_, rfl⟩
  obtain ⟨w3, hw3⟩ : ∃ w3, w2.alloc (.cells [(.int .i64 1), (.string ⟨#[]⟩), (.string ⟨#[]⟩), (.string ⟨#[]⟩), (.string ⟨#[]⟩), (.int .i64 0), (.int .i64 0), (.bool false), (.int .i64 0), (.int .i64 0), (.string ⟨#[]⟩), (.slice none 0 0)].toArray 28) = w3 := ⟨_, rfl⟩
  have hb3 : Below w2.heap.size w2 w3 := by rw [← hw3]; exact (Below.refl _ _).alloc (Nat.le_refl _) _
  have HJ3 : Hid (Bk 28 w3 J [(.int .i64 1), (.string ⟨#[]⟩), (.string ⟨#[]⟩), (.string ⟨#[]⟩), (.string ⟨#[]⟩), (.int .i64 0), (.int .i64 0), (.bool false), (.int .i64 0), (.int .i64 0), (.string ⟨#[]⟩), (.slice none 0 0)]) := by rw [← hw3, ← hJ]; exact Bk.new w2 _ _
  have HP3 := Lib.hid (HP2.out.below hb3); have HO3 := Lib.hid (HO2.out.then hb3); have HR3 := Lib.hid (HR2.out.below hb3)
  have hrJ : J ≠ w.heap.size := by omega
  have hnJ : b ≠ J := by have := HP2.out.lt; omega
  have hwJ : w.heap.size ≤ J := by omega
  have hJb : J ≠ b := fun e => hnJ e.symm
  have hrb : w.heap.size ≠ b := fun e => hne e.symm
  have HJe := Lib.hid hJ
  have Hw3 := Lib.hid hw3; clear hw3 hb3
  go_upto_region 3 with fail
  rw [Hw3.out]
  try rw [HJe.out]
  obtain ⟨c0, c1, c2⟩ := HP3.out.cells
  have f1 := HP3.out.frozen 1
  have d0 := HJ3.out.at 0 _ rfl
  clear hsz hsz2 hJ hsa
  go_wp2_with fail
  have HP4 := Lib.hid (HP3.out.setA (nb s a + y.size)); have HO4 := Lib.hid (HO3.out.in 1 (.int .i64 ((nb s a + y.size : Nat) : Int))); have HR4 := Lib.hid (HR3.out.put b 1 (.int .i64 ((nb s a + y.size : Nat) : Int)) hne); have HJ4 := Lib.hid (HJ3.out.put b 1 (.int .i64 ((nb s a + y.size : Nat) : Int)) hnJ)
  clear c0 c1 c2 f1 d0
  refine (rname_any b s (nb s a + y.size) 0 _ HP4.out Hle1.out hs).mono ?_
  rintro en w5 ⟨n5, a5, e5, rfl, hp, ho, hto⟩
  have HP5 := Lib.hid hp; have HO5 := Lib.hid (HO4.out.trans ho); have HR5 := Lib.hid (HR4.out.off ho hrb); have HJ5 := Lib.hid (HJ4.out.off ho hJb); have HT5 := Lib.hid hto; have HL5 := Lib.hid hto.1
  clear hp ho hto
  have c1 := HJ5.out.at 1 _ rfl; have q1 := HJ5.out.thaw 1
  have d0 := HJ5.out.at 0 _ rfl
  go_wp2_with fail
  clear d0 c1 q1
  have HJ6 : Hid (Bk 28 _ J [(.int .i64 1), (.string (strB n5)), (.string ⟨#[]⟩), (.string ⟨#[]⟩), (.string ⟨#[]⟩), (.int .i64 0), (.int .i64 0), (.bool false), (.int .i64 0), (.int .i64 0), (.string ⟨#[]⟩), (.slice none 0 0)]) := (HJ5.out.set 1 (.string (strB n5)))
  have HR6 := Lib.hid (HR5.out.put J 1 (.string (strB n5)) hrJ); have HO6 := Lib.hid (HO5.out.put J 1 (.string (strB n5)) hwJ); have HP6 := Lib.hid (HP5.out.put J 1 (.string (strB n5)) hJb)
  refine (rcolumns_any b s a5 e5 _ HP6.out HL5.out hs).mono ?_
  rintro en w7 ⟨v, l, a7, e7, rfl, hown, hp, ho, hto, hl10⟩
  have HP7 := Lib.hid hp; have HO7 := Lib.hid (HO6.out.trans ho); have HR7 := Lib.hid (HR6.out.off ho hrb); have HJ7 := Lib.hid (HJ6.out.off ho hJb); have HT7 := Lib.hid hto; have HL7 := Lib.hid hto.1
  obtain ⟨BB, hBB, hown⟩ : ∃ BB, (b < BB ∧ J < BB ∧ w.heap.size < BB) ∧ OwnC w7 BB v l := ⟨_, ⟨HP6.out.lt, HJ6.out.lt, HR6.out.lt⟩, hown⟩
  have Hbw := Lib.hid hBB; clear hBB
  obtain ⟨A, cp, rfl, _, _, _⟩ := hown.form
  have HW7 := Lib.hid hown; have Hl := Lib.hid hl10; clear hown hl10
  clear hp ho hto
  have c11 := HJ7.out.at 11 _ rfl; have q11 := HJ7.out.thaw 11
  have d0 := HJ7.out.at 0 _ rfl
  go_wp2_with fail
  clear d0 c11 q11
  have HJ8 : Hid (Bk 28 _ J [(.int .i64 1), (.string (strB n5)), (.string ⟨#[]⟩), (.string ⟨#[]⟩), (.string ⟨#[]⟩), (.int .i64 0), (.int .i64 0), (.bool false), (.int .i64 0), (.int .i64 0), (.string ⟨#[]⟩), (.slice A l.length cp)]) := (HJ7.out.set 11 (.slice A l.length cp))
  have HR8 := Lib.hid (HR7.out.put J 11 (.slice A l.length cp) hrJ); have HO8 := Lib.hid (HO7.out.put J 11 (.slice A l.length cp) hwJ); have HP8 := Lib.hid (HP7.out.put J 11 (.slice A l.length cp) hJb)
  have HW8 := Lib.hid (OwnR.off HW7.out (Off.set _ J 11 (.slice A l.length cp)) (fun x hx e => by have := (HW7.out.lt x hx).1; have := Hbw.out; omega))
  refine (rwant_any b s a7 e7 ⟨#[107, 101, 121]⟩ _ HP8.out HL7.out hs (by decide) ⟨by decide, by decide, by decide⟩).mono ?_
  rintro en w9 ⟨z9, a9, e9, rfl, hp, ho, hto⟩
  have HP9 := Lib.hid hp; have HO9 := Lib.hid (HO8.out.trans ho); have HR9 := Lib.hid (HR8.out.off ho hrb); have HJ9 := Lib.hid (HJ8.out.off ho hJb); have HT9 := Lib.hid hto; have HL9 := Lib.hid hto.1
  have HT9 : Hid (PTo (fun r => (pWord keyT r).bind fun q => .ok ((), q)) s a7 e7 z9 a9 e9) := hto
  have HW9 := Lib.hid (OwnR.off HW8.out ho (fun x hx e => by have := (HW8.out.lt x hx).1; have := Hbw.out; omega))
  clear hp ho hto
  go_wp2_with fail
  refine (rname_any b s a9 e9 _ HP9.out HL9.out hs).mono ?_
  rintro en w10 ⟨n10, a10, e10, rfl, hp, ho, hto⟩
  have HP10 := Lib.hid hp; have HO10 := Lib.hid (HO9.out.trans ho); have HR10 := Lib.hid (HR9.out.off ho hrb); have HJ10 := Lib.hid (HJ9.out.off ho hJb); have HT10 := Lib.hid hto; have HL10 := Lib.hid hto.1
  have HW10 := Lib.hid (OwnR.off HW9.out ho (fun x hx e => by have := (HW9.out.lt x hx).1; have := Hbw.out; omega))
  clear hp ho hto
  have d0 := HJ10.out.at 0 _ rfl; have r0 := HR10.out.at 0 _ rfl; have p0 := HR10.out.thaw 0
  have d1 := HJ10.out.at 1 _ rfl; have r1 := HR10.out.at 1 _ rfl; have p1 := HR10.out.thaw 1
  have d2 := HJ10.out.at 2 _ rfl; have r2 := HR10.out.at 2 _ rfl; have p2 := HR10.out.thaw 2
  have d3 := HJ10.out.at 3 _ rfl; have r3 := HR10.out.at 3 _ rfl; have p3 := HR10.out.thaw 3
  have d4 := HJ10.out.at 4 _ rfl; have r4 := HR10.out.at 4 _ rfl; have p4 := HR10.out.thaw 4
  have d5 := HJ10.out.at 5 _ rfl; have r5 := HR10.out.at 5 _ rfl; have p5 := HR10.out.thaw 5
  have d6 := HJ10.out.at 6 _ rfl; have r6 := HR10.out.at 6 _ rfl; have p6 := HR10.out.thaw 6
  have d7 := HJ10.out.at 7 _ rfl; have r7 := HR10.out.at 7 _ rfl; have p7 := HR10.out.thaw 7
  have d8 := HJ10.out.at 8 _ rfl; have r8 := HR10.out.at 8 _ rfl; have p8 := HR10.out.thaw 8
  have d9 := HJ10.out.at 9 _ rfl; have r9 := HR10.out.at 9 _ rfl; have p9 := HR10.out.thaw 9
  have d10 := HJ10.out.at 10 _ rfl; have r10 := HR10.out.at 10 _ rfl; have p10 := HR10.out.thaw 10
  have d11 := HJ10.out.at 11 _ rfl; have r11 := HR10.out.at 11 _ rfl; have p11 := HR10.out.thaw 11
  have q4 := HJ10.out.thaw 4
  go_wp2_with fail
  refine bodyPost_ret (results_kD rfl _ rfl (((((((((((((HR10.out.put J 4 (.string (strB n10)) hrJ).set 0 (.int .i64 1)).set 1 (.string (strB n5))).set 2 (.string ⟨#[]⟩)).set 3 (.string ⟨#[]⟩)).set 4 (.string (strB n10))).set 5 (.int .i64 0)).set 6 (.int .i64 0)).set 7 (.bool false)).set 8 (.int .i64 0)).set 9 (.int .i64 0)).set 10 (.string ⟨#[]⟩)).set 11 (.slice A l.length cp))) rfl ?_
  have hwf := HW10.out
  have hwf := OwnR.off hwf (Off.set _ J 4 (.string (strB n10))) (fun x hx e => by have := (HW10.out.lt x hx).1; have := Hbw.out; omega)
  have hwf := OwnR.off hwf (Off.set _ w.heap.size 0 (.int .i64 1)) (fun x hx e => by have := (HW10.out.lt x hx).1; have := Hbw.out; omega)
  have hwf := OwnR.off hwf (Off.set _ w.heap.size 1 (.string (strB n5))) (fun x hx e => by have := (HW10.out.lt x hx).1; have := Hbw.out; omega)
  have hwf := OwnR.off hwf (Off.set _ w.heap.size 2 (.string ⟨#[]⟩)) (fun x hx e => by have := (HW10.out.lt x hx).1; have := Hbw.out; omega)
  have hwf := OwnR.off hwf (Off.set _ w.heap.size 3 (.string ⟨#[]⟩)) (fun x hx e => by have := (HW10.out.lt x hx).1; have := Hbw.out; omega)
  have hwf := OwnR.off hwf (Off.set _ w.heap.size 4 (.string (strB n10))) (fun x hx e => by have := (HW10.out.lt x hx).1; have := Hbw.out; omega)
  have hwf := OwnR.off hwf (Off.set _ w.heap.size 5 (.int .i64 0)) (fun x hx e => by have := (HW10.out.lt x hx).1; have := Hbw.out; omega)
  have hwf := OwnR.off hwf (Off.set _ w.heap.size 6 (.int .i64 0)) (fun x hx e => by have := (HW10.out.lt x hx).1; have := Hbw.out; omega)
  have hwf := OwnR.off hwf (Off.set _ w.heap.size 7 (.bool false)) (fun x hx e => by have := (HW10.out.lt x hx).1; have := Hbw.out; omega)
  have hwf := OwnR.off hwf (Off.set _ w.heap.size 8 (.int .i64 0)) (fun x hx e => by have := (HW10.out.lt x hx).1; have := Hbw.out; omega)
  have hwf := OwnR.off hwf (Off.set _ w.heap.size 9 (.int .i64 0)) (fun x hx e => by have := (HW10.out.lt x hx).1; have := Hbw.out; omega)
  have hwf := OwnR.off hwf (Off.set _ w.heap.size 10 (.string ⟨#[]⟩)) (fun x hx e => by have := (HW10.out.lt x hx).1; have := Hbw.out; omega)
  have hwf := OwnR.off hwf (Off.set _ w.heap.size 11 (.slice A l.length cp)) (fun x hx e => by have := (HW10.out.lt x hx).1; have := Hbw.out; omega)
  exact ⟨⟨{ dp0 1 n5 with cols := l, key := strB n10 }, A, cp⟩, a10, e10, rfl, OwnR.at lenC hwf, (((((((((((((HP10.out.put J 4 (.string (strB n10)) hJb).put w.heap.size 0 (.int .i64 1) hrb).put w.heap.size 1 (.string (strB n5)) hrb).put w.heap.size 2 (.string ⟨#[]⟩) hrb).put w.heap.size 3 (.string ⟨#[]⟩) hrb).put w.heap.size 4 (.string (strB n10)) hrb).put w.heap.size 5 (.int .i64 0) hrb).put w.heap.size 6 (.int .i64 0) hrb).put w.heap.size 7 (.bool false) hrb).put w.heap.size 8 (.int .i64 0) hrb).put w.heap.size 9 (.int .i64 0) hrb).put w.heap.size 10 (.string ⟨#[]⟩) hrb).put w.heap.size 11 (.slice A l.length cp) hrb), (((((((((((((HO10.out.put J 4 (.string (strB n10)) hwJ).put w.heap.size 0 (.int .i64 1) (Nat.le_refl _)).put w.heap.size 1 (.string (strB n5)) (Nat.le_refl _)).put w.heap.size 2 (.string ⟨#[]⟩) (Nat.le_refl _)).put w.heap.size 3 (.string ⟨#[]⟩) (Nat.le_refl _)).put w.heap.size 4 (.string (strB n10)) (Nat.le_refl _)).put w.heap.size 5 (.int .i64 0) (Nat.le_refl _)).put w.heap.size 6 (.int .i64 0) (Nat.le_refl _)).put w.heap.size 7 (.bool false) (Nat.le_refl _)).put w.heap.size 8 (.int .i64 0) (Nat.le_refl _)).put w.heap.size 9 (.int .i64 0) (Nat.le_refl _)).put w.heap.size 10 (.string ⟨#[]⟩) (Nat.le_refl _)).put w.heap.size 11 (.slice A l.length cp) (Nat.le_refl _)), HCH.out HT5.out (rest_1 HT7.out HT9.out HT10.out), Hl.out, fun p hp => by have hp2 : A = some p := hp; subst hp2; have := (HW10.out.lt p.block rfl).1; have := Hbw.out; omega⟩
end Go.Proofs.YtebldfnocpcddaaGreatDoor

/-
  The document's own parser of changes (layer 10): a change of kind 2.
-/
namespace Go.Proofs.YtebldfnocpcddaaGreatDoor
open Go.RowKit

set_option maxRecDepth 100000 in
set_option maxHeartbeats 12800000 in
theorem rchg2_any (b : Nat) (s : ByteArray) (a : Nat) (w : World) (h : PBx 67 w b s a 0) (ha : a ≤ s.size) (hs : s.size ≤ 1000000) (hop : opW (wd ((bs s).drop (nb s a))) = 2) :
    Calls Tryz.prog 33 #[.pointer (some ⟨b, 0, none⟩)] w fun en w' => RChg b s a w en w' := by
  have hlt := h.lt
  have hne : b ≠ w.heap.size := by omega
  obtain ⟨wa, hwa⟩ : ∃ wa, w.alloc (.cells [(.int .i64 0), (.string ⟨#[]⟩), (.string ⟨#[]⟩), (.string ⟨#[]⟩), (.string ⟨#[]⟩), (.int .i64 0), (.int .i64 0), (.bool false), (.int .i64 0), (.int .i64 0), (.string ⟨#[]⟩), (.slice none 0 0)].toArray 28) = wa := ⟨_, rfl⟩
  have hba : Below w.heap.size w wa := by rw [← hwa]; exact (Below.refl _ _).alloc (Nat.le_refl _) _
  have HR0 : Hid (Bk 28 wa w.heap.size [(.int .i64 0), (.string ⟨#[]⟩), (.string ⟨#[]⟩), (.string ⟨#[]⟩), (.string ⟨#[]⟩), (.int .i64 0), (.int .i64 0), (.bool false), (.int .i64 0), (.int .i64 0), (.string ⟨#[]⟩), (.slice none 0 0)]) := by rw [← hwa]; exact Bk.new w _ _
  have hsa : wa.heap.size = w.heap.size + 1 := by rw [← hwa]; simp
  have Hwa := Lib.hid hwa; clear hwa
  have HO0 := Lib.hid (Off.of_below (S := fun k => k = b) hba)
  have HP0 := Lib.hid (h.below hba); clear hba h
  obtain ⟨y, hy⟩ : ∃ y, bs y = wd ((bs s).drop (nb s a)) := ⟨strB _, rfl⟩
  have hle := wd_len (nb_le ha).2
  rw [← hy, bs_length] at hle
  have HB := Lib.hid (rpeek_any b s a 0 y wa HP0.out ha hs hy)
  have Hnb : Hid (nbE s a 0 = nb s a) := rfl
  have HQ : Hid (∀ w, Calls Tryz.prog 61 #[.string y] w fun en w' => en = .returned (.int .i64 2) ∧ Below w.heap.size w w') := fun w => by
    have := rop_any y w
    rw [hy, hop] at this
    exact this
  have HCH : Hid (∀ {n a2 e2 x a' e'}, PTo pName s (nb s a + y.size) 0 n a2 e2 → PTo (pRest 2 n) s a2 e2 x a' e' → PTo pChange s a 0 x a' e') := fun h1 h2 => chg_seq (nb_le ha).2 (nb_drop ha).symm hop (by decide) (by rw [← hy, bs_length]) h1 h2
  have Hle1 := Lib.hid hle
  have w1 : IntKind.i64.wrap (((nb s a : Nat) : Int) + (y.size : Int)) = ((nb s a + y.size : Nat) : Int) := by rw [IntWalk.i64_in _ (by omega)]; rfl
  clear hy hop hle
  go_enter Tryz.func33, Tryz.ntmps33
  go_wp2_with fail
  rw [Hwa.out]
  refine HB.out.mono ?_
  rintro en w1 ⟨rfl, hp, ho⟩
  rw [Hnb.out] at hp
  have HP1 := Lib.hid hp; have HO1 := Lib.hid (HO0.out.trans ho); have HR1 := Lib.hid (HR0.out.off ho (fun h => hne h.symm))
  have hsz : w.heap.size + 1 ≤ w1.heap.size := by rw [← hsa]; exact ho.size
  clear hp ho
  go_wp2_with fail
  refine (HQ.out _).mono ?_
  rintro en w2 ⟨rfl, hb⟩
  have HP2 := Lib.hid (HP1.out.below hb); have HO2 := Lib.hid (HO1.out.then hb); have HR2 := Lib.hid (HR1.out.below hb)
  have hsz2 := hb.size
  clear hb
  obtain ⟨J, hJ⟩ : ∃ J, w2.heap.size = J := ⟨_, rfl⟩
  obtain ⟨w3, hw3⟩ : ∃ w3, w2.alloc (.cells [(.int .i64 2), (.string ⟨#[]⟩), (.string ⟨#[]⟩), (.string ⟨#[]⟩), (.string ⟨#[]⟩), (.int .i64 0), (.int .i64 0), (.bool false), (.int .i64 0), (.int .i64 0), (.string ⟨#[]⟩), (.slice none 0 0)].toArray 28) = w3 := ⟨_, rfl⟩
  have hb3 : Below w2.heap.size w2 w3 := by rw [← hw3]; exact (Below.refl _ _).alloc (Nat.le_refl _) _
  have HJ3 : Hid (Bk 28 w3 J [(.int .i64 2), (.string ⟨#[]⟩), (.string ⟨#[]⟩), (.string ⟨#[]⟩), (.string ⟨#[]⟩), (.int .i64 0), (.int .i64 0), (.bool false), (.int .i64 0), (.int .i64 0), (.string ⟨#[]⟩), (.slice none 0 0)]) := by rw [← hw3, ← hJ]; exact Bk.new w2 _ _
  have HP3 := Lib.hid (HP2.out.below hb3); have HO3 := Lib.hid (HO2.out.then hb3); have HR3 := Lib.hid (HR2.out.below hb3)
  have hrJ : J ≠ w.heap.size := by omega
  have hnJ : b ≠ J := by have := HP2.out.lt; omega
  have hwJ : w.heap.size ≤ J := by omega
  have hJb : J ≠ b := fun e => hnJ e.symm
  have hrb : w.heap.size ≠ b := fun e => hne e.symm
  have HJe := Lib.hid hJ
  have Hw3 := Lib.hid hw3; clear hw3 hb3
  go_upto_region 3 with fail
  rw [Hw3.out]
  try rw [HJe.out]
  obtain ⟨c0, c1, c2⟩ := HP3.out.cells
  have f1 := HP3.out.frozen 1
  have d0 := HJ3.out.at 0 _ rfl
  clear hsz hsz2 hJ hsa
  go_wp2_with fail
  have HP4 := Lib.hid (HP3.out.setA (nb s a + y.size)); have HO4 := Lib.hid (HO3.out.in 1 (.int .i64 ((nb s a + y.size : Nat) : Int))); have HR4 := Lib.hid (HR3.out.put b 1 (.int .i64 ((nb s a + y.size : Nat) : Int)) hne); have HJ4 := Lib.hid (HJ3.out.put b 1 (.int .i64 ((nb s a + y.size : Nat) : Int)) hnJ)
  clear c0 c1 c2 f1 d0
  refine (rname_any b s (nb s a + y.size) 0 _ HP4.out Hle1.out hs).mono ?_
  rintro en w5 ⟨n5, a5, e5, rfl, hp, ho, hto⟩
  have HP5 := Lib.hid hp; have HO5 := Lib.hid (HO4.out.trans ho); have HR5 := Lib.hid (HR4.out.off ho hrb); have HJ5 := Lib.hid (HJ4.out.off ho hJb); have HT5 := Lib.hid hto; have HL5 := Lib.hid hto.1
  clear hp ho hto
  have d0 := HJ5.out.at 0 _ rfl; have r0 := HR5.out.at 0 _ rfl; have p0 := HR5.out.thaw 0
  have d1 := HJ5.out.at 1 _ rfl; have r1 := HR5.out.at 1 _ rfl; have p1 := HR5.out.thaw 1
  have d2 := HJ5.out.at 2 _ rfl; have r2 := HR5.out.at 2 _ rfl; have p2 := HR5.out.thaw 2
  have d3 := HJ5.out.at 3 _ rfl; have r3 := HR5.out.at 3 _ rfl; have p3 := HR5.out.thaw 3
  have d4 := HJ5.out.at 4 _ rfl; have r4 := HR5.out.at 4 _ rfl; have p4 := HR5.out.thaw 4
  have d5 := HJ5.out.at 5 _ rfl; have r5 := HR5.out.at 5 _ rfl; have p5 := HR5.out.thaw 5
  have d6 := HJ5.out.at 6 _ rfl; have r6 := HR5.out.at 6 _ rfl; have p6 := HR5.out.thaw 6
  have d7 := HJ5.out.at 7 _ rfl; have r7 := HR5.out.at 7 _ rfl; have p7 := HR5.out.thaw 7
  have d8 := HJ5.out.at 8 _ rfl; have r8 := HR5.out.at 8 _ rfl; have p8 := HR5.out.thaw 8
  have d9 := HJ5.out.at 9 _ rfl; have r9 := HR5.out.at 9 _ rfl; have p9 := HR5.out.thaw 9
  have d10 := HJ5.out.at 10 _ rfl; have r10 := HR5.out.at 10 _ rfl; have p10 := HR5.out.thaw 10
  have d11 := HJ5.out.at 11 _ rfl; have r11 := HR5.out.at 11 _ rfl; have p11 := HR5.out.thaw 11
  have q1 := HJ5.out.thaw 1
  go_wp2_with fail
  refine bodyPost_ret (results_kD rfl _ rfl (((((((((((((HR5.out.put J 1 (.string (strB n5)) hrJ).set 0 (.int .i64 2)).set 1 (.string (strB n5))).set 2 (.string ⟨#[]⟩)).set 3 (.string ⟨#[]⟩)).set 4 (.string ⟨#[]⟩)).set 5 (.int .i64 0)).set 6 (.int .i64 0)).set 7 (.bool false)).set 8 (.int .i64 0)).set 9 (.int .i64 0)).set 10 (.string ⟨#[]⟩)).set 11 (.slice none 0 0))) rfl ?_
  exact ⟨⟨dp0 2 n5, none, 0⟩, a5, e5, rfl, fun hp => absurd hp (by simp [dp0]), (((((((((((((HP5.out.put J 1 (.string (strB n5)) hJb).put w.heap.size 0 (.int .i64 2) hrb).put w.heap.size 1 (.string (strB n5)) hrb).put w.heap.size 2 (.string ⟨#[]⟩) hrb).put w.heap.size 3 (.string ⟨#[]⟩) hrb).put w.heap.size 4 (.string ⟨#[]⟩) hrb).put w.heap.size 5 (.int .i64 0) hrb).put w.heap.size 6 (.int .i64 0) hrb).put w.heap.size 7 (.bool false) hrb).put w.heap.size 8 (.int .i64 0) hrb).put w.heap.size 9 (.int .i64 0) hrb).put w.heap.size 10 (.string ⟨#[]⟩) hrb).put w.heap.size 11 (.slice none 0 0) hrb), (((((((((((((HO5.out.put J 1 (.string (strB n5)) hwJ).put w.heap.size 0 (.int .i64 2) (Nat.le_refl _)).put w.heap.size 1 (.string (strB n5)) (Nat.le_refl _)).put w.heap.size 2 (.string ⟨#[]⟩) (Nat.le_refl _)).put w.heap.size 3 (.string ⟨#[]⟩) (Nat.le_refl _)).put w.heap.size 4 (.string ⟨#[]⟩) (Nat.le_refl _)).put w.heap.size 5 (.int .i64 0) (Nat.le_refl _)).put w.heap.size 6 (.int .i64 0) (Nat.le_refl _)).put w.heap.size 7 (.bool false) (Nat.le_refl _)).put w.heap.size 8 (.int .i64 0) (Nat.le_refl _)).put w.heap.size 9 (.int .i64 0) (Nat.le_refl _)).put w.heap.size 10 (.string ⟨#[]⟩) (Nat.le_refl _)).put w.heap.size 11 (.slice none 0 0) (Nat.le_refl _)), HCH.out HT5.out (rest_2 HL5.out), by simp [dp0], fun p hp => by cases hp⟩
end Go.Proofs.YtebldfnocpcddaaGreatDoor

/-
  The document's own parser of changes (layer 10): a change of kind 3.
-/
namespace Go.Proofs.YtebldfnocpcddaaGreatDoor
open Go.RowKit

set_option maxRecDepth 100000 in
set_option maxHeartbeats 12800000 in
theorem rchg3_any (b : Nat) (s : ByteArray) (a : Nat) (w : World) (h : PBx 67 w b s a 0) (ha : a ≤ s.size) (hs : s.size ≤ 1000000) (hop : opW (wd ((bs s).drop (nb s a))) = 3) :
    Calls Tryz.prog 33 #[.pointer (some ⟨b, 0, none⟩)] w fun en w' => RChg b s a w en w' := by
  have hlt := h.lt
  have hne : b ≠ w.heap.size := by omega
  obtain ⟨wa, hwa⟩ : ∃ wa, w.alloc (.cells [(.int .i64 0), (.string ⟨#[]⟩), (.string ⟨#[]⟩), (.string ⟨#[]⟩), (.string ⟨#[]⟩), (.int .i64 0), (.int .i64 0), (.bool false), (.int .i64 0), (.int .i64 0), (.string ⟨#[]⟩), (.slice none 0 0)].toArray 28) = wa := ⟨_, rfl⟩
  have hba : Below w.heap.size w wa := by rw [← hwa]; exact (Below.refl _ _).alloc (Nat.le_refl _) _
  have HR0 : Hid (Bk 28 wa w.heap.size [(.int .i64 0), (.string ⟨#[]⟩), (.string ⟨#[]⟩), (.string ⟨#[]⟩), (.string ⟨#[]⟩), (.int .i64 0), (.int .i64 0), (.bool false), (.int .i64 0), (.int .i64 0), (.string ⟨#[]⟩), (.slice none 0 0)]) := by rw [← hwa]; exact Bk.new w _ _
  have hsa : wa.heap.size = w.heap.size + 1 := by rw [← hwa]; simp
  have Hwa := Lib.hid hwa; clear hwa
  have HO0 := Lib.hid (Off.of_below (S := fun k => k = b) hba)
  have HP0 := Lib.hid (h.below hba); clear hba h
  obtain ⟨y, hy⟩ : ∃ y, bs y = wd ((bs s).drop (nb s a)) := ⟨strB _, rfl⟩
  have hle := wd_len (nb_le ha).2
  rw [← hy, bs_length] at hle
  have HB := Lib.hid (rpeek_any b s a 0 y wa HP0.out ha hs hy)
  have Hnb : Hid (nbE s a 0 = nb s a) := rfl
  have HQ : Hid (∀ w, Calls Tryz.prog 61 #[.string y] w fun en w' => en = .returned (.int .i64 3) ∧ Below w.heap.size w w') := fun w => by
    have := rop_any y w
    rw [hy, hop] at this
    exact this
  have HCH : Hid (∀ {n a2 e2 x a' e'}, PTo pName s (nb s a + y.size) 0 n a2 e2 → PTo (pRest 3 n) s a2 e2 x a' e' → PTo pChange s a 0 x a' e') := fun h1 h2 => chg_seq (nb_le ha).2 (nb_drop ha).symm hop (by decide) (by rw [← hy, bs_length]) h1 h2
  have Hle1 := Lib.hid hle
  have w1 : IntKind.i64.wrap (((nb s a : Nat) : Int) + (y.size : Int)) = ((nb s a + y.size : Nat) : Int) := by rw [IntWalk.i64_in _ (by omega)]; rfl
  clear hy hop hle
  go_enter Tryz.func33, Tryz.ntmps33
  go_wp2_with fail
  rw [Hwa.out]
  refine HB.out.mono ?_
  rintro en w1 ⟨rfl, hp, ho⟩
  rw [Hnb.out] at hp
  have HP1 := Lib.hid hp; have HO1 := Lib.hid (HO0.out.trans ho); have HR1 := Lib.hid (HR0.out.off ho (fun h => hne h.symm))
  have hsz : w.heap.size + 1 ≤ w1.heap.size := by rw [← hsa]; exact ho.size
  clear hp ho
  go_wp2_with fail
  refine (HQ.out _).mono ?_
  rintro en w2 ⟨rfl, hb⟩
  have HP2 := Lib.hid (HP1.out.below hb); have HO2 := Lib.hid (HO1.out.then hb); have HR2 := Lib.hid (HR1.out.below hb)
  have hsz2 := hb.size
  clear hb
  obtain ⟨J, hJ⟩ : ∃ J, w2.heap.size = J := ⟨_, rfl⟩
  obtain ⟨w3, hw3⟩ : ∃ w3, w2.alloc (.cells [(.int .i64 3), (.string ⟨#[]⟩), (.string ⟨#[]⟩), (.string ⟨#[]⟩), (.string ⟨#[]⟩), (.int .i64 0), (.int .i64 0), (.bool false), (.int .i64 0), (.int .i64 0), (.string ⟨#[]⟩), (.slice none 0 0)].toArray 28) = w3 := ⟨_, rfl⟩
  have hb3 : Below w2.heap.size w2 w3 := by rw [← hw3]; exact (Below.refl _ _).alloc (Nat.le_refl _) _
  have HJ3 : Hid (Bk 28 w3 J [(.int .i64 3), (.string ⟨#[]⟩), (.string ⟨#[]⟩), (.string ⟨#[]⟩), (.string ⟨#[]⟩), (.int .i64 0), (.int .i64 0), (.bool false), (.int .i64 0), (.int .i64 0), (.string ⟨#[]⟩), (.slice none 0 0)]) := by rw [← hw3, ← hJ]; exact Bk.new w2 _ _
  have HP3 := Lib.hid (HP2.out.below hb3); have HO3 := Lib.hid (HO2.out.then hb3); have HR3 := Lib.hid (HR2.out.below hb3)
  have hrJ : J ≠ w.heap.size := by omega
  have hnJ : b ≠ J := by have := HP2.out.lt; omega
  have hwJ : w.heap.size ≤ J := by omega
  have hJb : J ≠ b := fun e => hnJ e.symm
  have hrb : w.heap.size ≠ b := fun e => hne e.symm
  have HJe := Lib.hid hJ
  have Hw3 := Lib.hid hw3; clear hw3 hb3
  go_upto_region 3 with fail
  rw [Hw3.out]
  try rw [HJe.out]
  obtain ⟨c0, c1, c2⟩ := HP3.out.cells
  have f1 := HP3.out.frozen 1
  have d0 := HJ3.out.at 0 _ rfl
  clear hsz hsz2 hJ hsa
  go_wp2_with fail
  have HP4 := Lib.hid (HP3.out.setA (nb s a + y.size)); have HO4 := Lib.hid (HO3.out.in 1 (.int .i64 ((nb s a + y.size : Nat) : Int))); have HR4 := Lib.hid (HR3.out.put b 1 (.int .i64 ((nb s a + y.size : Nat) : Int)) hne); have HJ4 := Lib.hid (HJ3.out.put b 1 (.int .i64 ((nb s a + y.size : Nat) : Int)) hnJ)
  clear c0 c1 c2 f1 d0
  refine (rname_any b s (nb s a + y.size) 0 _ HP4.out Hle1.out hs).mono ?_
  rintro en w5 ⟨n5, a5, e5, rfl, hp, ho, hto⟩
  have HP5 := Lib.hid hp; have HO5 := Lib.hid (HO4.out.trans ho); have HR5 := Lib.hid (HR4.out.off ho hrb); have HJ5 := Lib.hid (HJ4.out.off ho hJb); have HT5 := Lib.hid hto; have HL5 := Lib.hid hto.1
  clear hp ho hto
  have c1 := HJ5.out.at 1 _ rfl; have q1 := HJ5.out.thaw 1
  have d0 := HJ5.out.at 0 _ rfl
  go_wp2_with fail
  clear d0 c1 q1
  have HJ6 : Hid (Bk 28 _ J [(.int .i64 3), (.string (strB n5)), (.string ⟨#[]⟩), (.string ⟨#[]⟩), (.string ⟨#[]⟩), (.int .i64 0), (.int .i64 0), (.bool false), (.int .i64 0), (.int .i64 0), (.string ⟨#[]⟩), (.slice none 0 0)]) := (HJ5.out.set 1 (.string (strB n5)))
  have HR6 := Lib.hid (HR5.out.put J 1 (.string (strB n5)) hrJ); have HO6 := Lib.hid (HO5.out.put J 1 (.string (strB n5)) hwJ); have HP6 := Lib.hid (HP5.out.put J 1 (.string (strB n5)) hJb)
  refine (rwant_any b s a5 e5 ⟨#[116, 111]⟩ _ HP6.out HL5.out hs (by decide) ⟨by decide, by decide, by decide⟩).mono ?_
  rintro en w7 ⟨z7, a7, e7, rfl, hp, ho, hto⟩
  have HP7 := Lib.hid hp; have HO7 := Lib.hid (HO6.out.trans ho); have HR7 := Lib.hid (HR6.out.off ho hrb); have HJ7 := Lib.hid (HJ6.out.off ho hJb); have HT7 := Lib.hid hto; have HL7 := Lib.hid hto.1
  have HT7 : Hid (PTo (fun r => (pWord toT r).bind fun q => .ok ((), q)) s a5 e5 z7 a7 e7) := hto
  clear hp ho hto
  go_wp2_with fail
  refine (rname_any b s a7 e7 _ HP7.out HL7.out hs).mono ?_
  rintro en w8 ⟨n8, a8, e8, rfl, hp, ho, hto⟩
  have HP8 := Lib.hid hp; have HO8 := Lib.hid (HO7.out.trans ho); have HR8 := Lib.hid (HR7.out.off ho hrb); have HJ8 := Lib.hid (HJ7.out.off ho hJb); have HT8 := Lib.hid hto; have HL8 := Lib.hid hto.1
  clear hp ho hto
  have d0 := HJ8.out.at 0 _ rfl; have r0 := HR8.out.at 0 _ rfl; have p0 := HR8.out.thaw 0
  have d1 := HJ8.out.at 1 _ rfl; have r1 := HR8.out.at 1 _ rfl; have p1 := HR8.out.thaw 1
  have d2 := HJ8.out.at 2 _ rfl; have r2 := HR8.out.at 2 _ rfl; have p2 := HR8.out.thaw 2
  have d3 := HJ8.out.at 3 _ rfl; have r3 := HR8.out.at 3 _ rfl; have p3 := HR8.out.thaw 3
  have d4 := HJ8.out.at 4 _ rfl; have r4 := HR8.out.at 4 _ rfl; have p4 := HR8.out.thaw 4
  have d5 := HJ8.out.at 5 _ rfl; have r5 := HR8.out.at 5 _ rfl; have p5 := HR8.out.thaw 5
  have d6 := HJ8.out.at 6 _ rfl; have r6 := HR8.out.at 6 _ rfl; have p6 := HR8.out.thaw 6
  have d7 := HJ8.out.at 7 _ rfl; have r7 := HR8.out.at 7 _ rfl; have p7 := HR8.out.thaw 7
  have d8 := HJ8.out.at 8 _ rfl; have r8 := HR8.out.at 8 _ rfl; have p8 := HR8.out.thaw 8
  have d9 := HJ8.out.at 9 _ rfl; have r9 := HR8.out.at 9 _ rfl; have p9 := HR8.out.thaw 9
  have d10 := HJ8.out.at 10 _ rfl; have r10 := HR8.out.at 10 _ rfl; have p10 := HR8.out.thaw 10
  have d11 := HJ8.out.at 11 _ rfl; have r11 := HR8.out.at 11 _ rfl; have p11 := HR8.out.thaw 11
  have q3 := HJ8.out.thaw 3
  go_wp2_with fail
  refine bodyPost_ret (results_kD rfl _ rfl (((((((((((((HR8.out.put J 3 (.string (strB n8)) hrJ).set 0 (.int .i64 3)).set 1 (.string (strB n5))).set 2 (.string ⟨#[]⟩)).set 3 (.string (strB n8))).set 4 (.string ⟨#[]⟩)).set 5 (.int .i64 0)).set 6 (.int .i64 0)).set 7 (.bool false)).set 8 (.int .i64 0)).set 9 (.int .i64 0)).set 10 (.string ⟨#[]⟩)).set 11 (.slice none 0 0))) rfl ?_
  exact ⟨⟨{ dp0 3 n5 with «to» := strB n8 }, none, 0⟩, a8, e8, rfl, fun hp => absurd hp (by simp [dp0]), (((((((((((((HP8.out.put J 3 (.string (strB n8)) hJb).put w.heap.size 0 (.int .i64 3) hrb).put w.heap.size 1 (.string (strB n5)) hrb).put w.heap.size 2 (.string ⟨#[]⟩) hrb).put w.heap.size 3 (.string (strB n8)) hrb).put w.heap.size 4 (.string ⟨#[]⟩) hrb).put w.heap.size 5 (.int .i64 0) hrb).put w.heap.size 6 (.int .i64 0) hrb).put w.heap.size 7 (.bool false) hrb).put w.heap.size 8 (.int .i64 0) hrb).put w.heap.size 9 (.int .i64 0) hrb).put w.heap.size 10 (.string ⟨#[]⟩) hrb).put w.heap.size 11 (.slice none 0 0) hrb), (((((((((((((HO8.out.put J 3 (.string (strB n8)) hwJ).put w.heap.size 0 (.int .i64 3) (Nat.le_refl _)).put w.heap.size 1 (.string (strB n5)) (Nat.le_refl _)).put w.heap.size 2 (.string ⟨#[]⟩) (Nat.le_refl _)).put w.heap.size 3 (.string (strB n8)) (Nat.le_refl _)).put w.heap.size 4 (.string ⟨#[]⟩) (Nat.le_refl _)).put w.heap.size 5 (.int .i64 0) (Nat.le_refl _)).put w.heap.size 6 (.int .i64 0) (Nat.le_refl _)).put w.heap.size 7 (.bool false) (Nat.le_refl _)).put w.heap.size 8 (.int .i64 0) (Nat.le_refl _)).put w.heap.size 9 (.int .i64 0) (Nat.le_refl _)).put w.heap.size 10 (.string ⟨#[]⟩) (Nat.le_refl _)).put w.heap.size 11 (.slice none 0 0) (Nat.le_refl _)), HCH.out HT5.out (rest_3 HT7.out HT8.out), by simp [dp0], fun p hp => by cases hp⟩
end Go.Proofs.YtebldfnocpcddaaGreatDoor

/-
  The document's own parser of changes (layer 10): a change of kind 5.
-/
namespace Go.Proofs.YtebldfnocpcddaaGreatDoor
open Go.RowKit

set_option maxRecDepth 100000 in
set_option maxHeartbeats 12800000 in
theorem rchg5_any (b : Nat) (s : ByteArray) (a : Nat) (w : World) (h : PBx 67 w b s a 0) (ha : a ≤ s.size) (hs : s.size ≤ 1000000) (hop : opW (wd ((bs s).drop (nb s a))) = 5) :
    Calls Tryz.prog 33 #[.pointer (some ⟨b, 0, none⟩)] w fun en w' => RChg b s a w en w' := by
  have hlt := h.lt
  have hne : b ≠ w.heap.size := by omega
  obtain ⟨wa, hwa⟩ : ∃ wa, w.alloc (.cells [(.int .i64 0), (.string ⟨#[]⟩), (.string ⟨#[]⟩), (.string ⟨#[]⟩), (.string ⟨#[]⟩), (.int .i64 0), (.int .i64 0), (.bool false), (.int .i64 0), (.int .i64 0), (.string ⟨#[]⟩), (.slice none 0 0)].toArray 28) = wa := ⟨_, rfl⟩
  have hba : Below w.heap.size w wa := by rw [← hwa]; exact (Below.refl _ _).alloc (Nat.le_refl _) _
  have HR0 : Hid (Bk 28 wa w.heap.size [(.int .i64 0), (.string ⟨#[]⟩), (.string ⟨#[]⟩), (.string ⟨#[]⟩), (.string ⟨#[]⟩), (.int .i64 0), (.int .i64 0), (.bool false), (.int .i64 0), (.int .i64 0), (.string ⟨#[]⟩), (.slice none 0 0)]) := by rw [← hwa]; exact Bk.new w _ _
  have hsa : wa.heap.size = w.heap.size + 1 := by rw [← hwa]; simp
  have Hwa := Lib.hid hwa; clear hwa
  have HO0 := Lib.hid (Off.of_below (S := fun k => k = b) hba)
  have HP0 := Lib.hid (h.below hba); clear hba h
  obtain ⟨y, hy⟩ : ∃ y, bs y = wd ((bs s).drop (nb s a)) := ⟨strB _, rfl⟩
  have hle := wd_len (nb_le ha).2
  rw [← hy, bs_length] at hle
  have HB := Lib.hid (rpeek_any b s a 0 y wa HP0.out ha hs hy)
  have Hnb : Hid (nbE s a 0 = nb s a) := rfl
  have HQ : Hid (∀ w, Calls Tryz.prog 61 #[.string y] w fun en w' => en = .returned (.int .i64 5) ∧ Below w.heap.size w w') := fun w => by
    have := rop_any y w
    rw [hy, hop] at this
    exact this
  have HCH : Hid (∀ {n a2 e2 x a' e'}, PTo pName s (nb s a + y.size) 0 n a2 e2 → PTo (pRest 5 n) s a2 e2 x a' e' → PTo pChange s a 0 x a' e') := fun h1 h2 => chg_seq (nb_le ha).2 (nb_drop ha).symm hop (by decide) (by rw [← hy, bs_length]) h1 h2
  have Hle1 := Lib.hid hle
  have w1 : IntKind.i64.wrap (((nb s a : Nat) : Int) + (y.size : Int)) = ((nb s a + y.size : Nat) : Int) := by rw [IntWalk.i64_in _ (by omega)]; rfl
  clear hy hop hle
  go_enter Tryz.func33, Tryz.ntmps33
  go_wp2_with fail
  rw [Hwa.out]
  refine HB.out.mono ?_
  rintro en w1 ⟨rfl, hp, ho⟩
  rw [Hnb.out] at hp
  have HP1 := Lib.hid hp; have HO1 := Lib.hid (HO0.out.trans ho); have HR1 := Lib.hid (HR0.out.off ho (fun h => hne h.symm))
  have hsz : w.heap.size + 1 ≤ w1.heap.size := by rw [← hsa]; exact ho.size
  clear hp ho
  go_wp2_with fail
  refine (HQ.out _).mono ?_
  rintro en w2 ⟨rfl, hb⟩
  have HP2 := Lib.hid (HP1.out.below hb); have HO2 := Lib.hid (HO1.out.then hb); have HR2 := Lib.hid (HR1.out.below hb)
  have hsz2 := hb.size
  clear hb
  obtain ⟨J, hJ⟩ : ∃ J, w2.heap.size = J := ⟨_, rfl⟩
  obtain ⟨w3, hw3⟩ : ∃ w3, w2.alloc (.cells [(.int .i64 5), (.string ⟨#[]⟩), (.string ⟨#[]⟩), (.string ⟨#[]⟩), (.string ⟨#[]⟩), (.int .i64 0), (.int .i64 0), (.bool false), (.int .i64 0), (.int .i64 0), (.string ⟨#[]⟩), (.slice none 0 0)].toArray 28) = w3 := ⟨_, rfl⟩
  have hb3 : Below w2.heap.size w2 w3 := by rw [← hw3]; exact (Below.refl _ _).alloc (Nat.le_refl _) _
  have HJ3 : Hid (Bk 28 w3 J [(.int .i64 5), (.string ⟨#[]⟩), (.string ⟨#[]⟩), (.string ⟨#[]⟩), (.string ⟨#[]⟩), (.int .i64 0), (.int .i64 0), (.bool false), (.int .i64 0), (.int .i64 0), (.string ⟨#[]⟩), (.slice none 0 0)]) := by rw [← hw3, ← hJ]; exact Bk.new w2 _ _
  have HP3 := Lib.hid (HP2.out.below hb3); have HO3 := Lib.hid (HO2.out.then hb3); have HR3 := Lib.hid (HR2.out.below hb3)
  have hrJ : J ≠ w.heap.size := by omega
  have hnJ : b ≠ J := by have := HP2.out.lt; omega
  have hwJ : w.heap.size ≤ J := by omega
  have hJb : J ≠ b := fun e => hnJ e.symm
  have hrb : w.heap.size ≠ b := fun e => hne e.symm
  have HJe := Lib.hid hJ
  have Hw3 := Lib.hid hw3; clear hw3 hb3
  go_upto_region 3 with fail
  rw [Hw3.out]
  try rw [HJe.out]
  obtain ⟨c0, c1, c2⟩ := HP3.out.cells
  have f1 := HP3.out.frozen 1
  have d0 := HJ3.out.at 0 _ rfl
  clear hsz hsz2 hJ hsa
  go_wp2_with fail
  have HP4 := Lib.hid (HP3.out.setA (nb s a + y.size)); have HO4 := Lib.hid (HO3.out.in 1 (.int .i64 ((nb s a + y.size : Nat) : Int))); have HR4 := Lib.hid (HR3.out.put b 1 (.int .i64 ((nb s a + y.size : Nat) : Int)) hne); have HJ4 := Lib.hid (HJ3.out.put b 1 (.int .i64 ((nb s a + y.size : Nat) : Int)) hnJ)
  clear c0 c1 c2 f1 d0
  refine (rname_any b s (nb s a + y.size) 0 _ HP4.out Hle1.out hs).mono ?_
  rintro en w5 ⟨n5, a5, e5, rfl, hp, ho, hto⟩
  have HP5 := Lib.hid hp; have HO5 := Lib.hid (HO4.out.trans ho); have HR5 := Lib.hid (HR4.out.off ho hrb); have HJ5 := Lib.hid (HJ4.out.off ho hJb); have HT5 := Lib.hid hto; have HL5 := Lib.hid hto.1
  clear hp ho hto
  have c1 := HJ5.out.at 1 _ rfl; have q1 := HJ5.out.thaw 1
  have d0 := HJ5.out.at 0 _ rfl
  go_wp2_with fail
  clear d0 c1 q1
  have HJ6 : Hid (Bk 28 _ J [(.int .i64 5), (.string (strB n5)), (.string ⟨#[]⟩), (.string ⟨#[]⟩), (.string ⟨#[]⟩), (.int .i64 0), (.int .i64 0), (.bool false), (.int .i64 0), (.int .i64 0), (.string ⟨#[]⟩), (.slice none 0 0)]) := (HJ5.out.set 1 (.string (strB n5)))
  have HR6 := Lib.hid (HR5.out.put J 1 (.string (strB n5)) hrJ); have HO6 := Lib.hid (HO5.out.put J 1 (.string (strB n5)) hwJ); have HP6 := Lib.hid (HP5.out.put J 1 (.string (strB n5)) hJb)
  refine (rname_any b s a5 e5 _ HP6.out HL5.out hs).mono ?_
  rintro en w7 ⟨n7, a7, e7, rfl, hp, ho, hto⟩
  have HP7 := Lib.hid hp; have HO7 := Lib.hid (HO6.out.trans ho); have HR7 := Lib.hid (HR6.out.off ho hrb); have HJ7 := Lib.hid (HJ6.out.off ho hJb); have HT7 := Lib.hid hto; have HL7 := Lib.hid hto.1
  clear hp ho hto
  have d0 := HJ7.out.at 0 _ rfl; have r0 := HR7.out.at 0 _ rfl; have p0 := HR7.out.thaw 0
  have d1 := HJ7.out.at 1 _ rfl; have r1 := HR7.out.at 1 _ rfl; have p1 := HR7.out.thaw 1
  have d2 := HJ7.out.at 2 _ rfl; have r2 := HR7.out.at 2 _ rfl; have p2 := HR7.out.thaw 2
  have d3 := HJ7.out.at 3 _ rfl; have r3 := HR7.out.at 3 _ rfl; have p3 := HR7.out.thaw 3
  have d4 := HJ7.out.at 4 _ rfl; have r4 := HR7.out.at 4 _ rfl; have p4 := HR7.out.thaw 4
  have d5 := HJ7.out.at 5 _ rfl; have r5 := HR7.out.at 5 _ rfl; have p5 := HR7.out.thaw 5
  have d6 := HJ7.out.at 6 _ rfl; have r6 := HR7.out.at 6 _ rfl; have p6 := HR7.out.thaw 6
  have d7 := HJ7.out.at 7 _ rfl; have r7 := HR7.out.at 7 _ rfl; have p7 := HR7.out.thaw 7
  have d8 := HJ7.out.at 8 _ rfl; have r8 := HR7.out.at 8 _ rfl; have p8 := HR7.out.thaw 8
  have d9 := HJ7.out.at 9 _ rfl; have r9 := HR7.out.at 9 _ rfl; have p9 := HR7.out.thaw 9
  have d10 := HJ7.out.at 10 _ rfl; have r10 := HR7.out.at 10 _ rfl; have p10 := HR7.out.thaw 10
  have d11 := HJ7.out.at 11 _ rfl; have r11 := HR7.out.at 11 _ rfl; have p11 := HR7.out.thaw 11
  have q2 := HJ7.out.thaw 2
  go_wp2_with fail
  refine bodyPost_ret (results_kD rfl _ rfl (((((((((((((HR7.out.put J 2 (.string (strB n7)) hrJ).set 0 (.int .i64 5)).set 1 (.string (strB n5))).set 2 (.string (strB n7))).set 3 (.string ⟨#[]⟩)).set 4 (.string ⟨#[]⟩)).set 5 (.int .i64 0)).set 6 (.int .i64 0)).set 7 (.bool false)).set 8 (.int .i64 0)).set 9 (.int .i64 0)).set 10 (.string ⟨#[]⟩)).set 11 (.slice none 0 0))) rfl ?_
  exact ⟨⟨{ dp0 5 n5 with co := strB n7 }, none, 0⟩, a7, e7, rfl, fun hp => absurd hp (by simp [dp0]), (((((((((((((HP7.out.put J 2 (.string (strB n7)) hJb).put w.heap.size 0 (.int .i64 5) hrb).put w.heap.size 1 (.string (strB n5)) hrb).put w.heap.size 2 (.string (strB n7)) hrb).put w.heap.size 3 (.string ⟨#[]⟩) hrb).put w.heap.size 4 (.string ⟨#[]⟩) hrb).put w.heap.size 5 (.int .i64 0) hrb).put w.heap.size 6 (.int .i64 0) hrb).put w.heap.size 7 (.bool false) hrb).put w.heap.size 8 (.int .i64 0) hrb).put w.heap.size 9 (.int .i64 0) hrb).put w.heap.size 10 (.string ⟨#[]⟩) hrb).put w.heap.size 11 (.slice none 0 0) hrb), (((((((((((((HO7.out.put J 2 (.string (strB n7)) hwJ).put w.heap.size 0 (.int .i64 5) (Nat.le_refl _)).put w.heap.size 1 (.string (strB n5)) (Nat.le_refl _)).put w.heap.size 2 (.string (strB n7)) (Nat.le_refl _)).put w.heap.size 3 (.string ⟨#[]⟩) (Nat.le_refl _)).put w.heap.size 4 (.string ⟨#[]⟩) (Nat.le_refl _)).put w.heap.size 5 (.int .i64 0) (Nat.le_refl _)).put w.heap.size 6 (.int .i64 0) (Nat.le_refl _)).put w.heap.size 7 (.bool false) (Nat.le_refl _)).put w.heap.size 8 (.int .i64 0) (Nat.le_refl _)).put w.heap.size 9 (.int .i64 0) (Nat.le_refl _)).put w.heap.size 10 (.string ⟨#[]⟩) (Nat.le_refl _)).put w.heap.size 11 (.slice none 0 0) (Nat.le_refl _)), HCH.out HT5.out (rest_5 HT7.out), by simp [dp0], fun p hp => by cases hp⟩
end Go.Proofs.YtebldfnocpcddaaGreatDoor
