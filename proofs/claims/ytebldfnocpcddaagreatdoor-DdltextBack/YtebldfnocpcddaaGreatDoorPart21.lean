/-
  Texts that the proof needs, one behind the other: ValReadC, ValUnhexC, ValReadBytC, ValParseC, ValPrintC.
-/
import Derived.Deep.CutBlock
import Derived.Deep.DeepCutAuto
import Derived.Test.YtebldfnocpcddaaGreatDoorPart10
import Derived.Test.YtebldfnocpcddaaGreatDoorPart20
import Derived.Test.YtebldfnocpcddaaGreatDoorPart5
import Derived.Test.YtebldfnocpcddaaGreatDoorPart9
import Derived.Test.YtebldfnocpcddaaGreatDoorPart11

/-
  Contracts of package value's sized, readNumber, readText.
-/
namespace Go.Proofs.YtebldfnocpcddaaGreatDoor
open Go.RowKit

theorem Blk3.alloc {w : World} {b : Nat} {x y z : Value} (h : Blk3 w b x y z) (hb : b < w.heap.size) (o : Obj) : Blk3 (w.alloc o) b x y z := h.below ((Below.refl w.heap.size w).alloc (Nat.le_refl _) o) hb
theorem new_lt {w w1 : World} {o : Obj} (hb : Below (w.alloc o).heap.size (w.alloc o) w1) : w.heap.size < w1.heap.size := by have := hb.size; simp at this; omega

set_option maxHeartbeats 400000 in
theorem sized_ok (k n : Int) (s : ByteArray) (z : Int) (w : World) : Calls Tryz.prog 130 #[VV k n s, .int .i64 z, .int .i64 0] w fun e w' => e = .returned (.tuple #[VV k n s, .int .i64 z, .int .i64 0]) ∧ Below w.heap.size w w' := by
  go_enter Tryz.func130, Tryz.ntmps130
  go_wp2_with fail
  go_returns
  exact ⟨rfl, by go_grown⟩
set_option maxHeartbeats 400000 in
theorem sized_err (k n : Int) (s : ByteArray) (z x : Int) (w : World) (hx : (x != 0) = true) : Calls Tryz.prog 130 #[VV k n s, .int .i64 z, .int .i64 x] w fun e w' => e = .returned (.tuple #[VV 0 0 ⟨#[]⟩, .int .i64 0, .int .i64 x]) ∧ Below w.heap.size w w' := by
  go_enter Tryz.func130, Tryz.ntmps130
  go_wp2_with fail
  go_returns
  exact ⟨rfl, by go_grown⟩

/-- a value as the program has it -/
def valV (v : Val) : Value := VV v.1 v.2.1 ⟨v.2.2.toArray⟩
def resV (r : Val × Nat × Nat) : Value := .tuple #[valV r.1, .int .i64 (r.2.1 : Nat), .int .i64 (r.2.2 : Nat)]
theorem resV_eq {r : Val × Nat × Nat} {k n : Int} {t : List UInt8} {m e : Nat} (h : r = ((k, n, t), m, e)) : resV r = .tuple #[VV k n ⟨t.toArray⟩, .int .i64 (m : Nat), .int .i64 (e : Nat)] := by rw [h]; rfl

set_option maxRecDepth 100000 in
set_option maxHeartbeats 1600000 in
theorem readNumber_any (s : ByteArray) (w : World) (hs : s.size ≤ 1000000) : Calls Tryz.prog 104 #[.string s] w fun e w' => e = .returned (resV (numR (bs s))) ∧ Below w.heap.size w w' := by
  obtain ⟨⟨z, m, e⟩, hN⟩ : ∃ r, numW (bs s) = r := ⟨_, rfl⟩
  have H1 : Hid (∀ w, Calls Tryz.prog 127 #[.string s] w fun e' w' => e' = .returned (.tuple #[.int .i64 z, .int .i64 (m : Nat), .int .i64 (e : Nat)]) ∧ w = w') := fun w => by
    have := number_any s w hs
    unfold numV at this
    rw [hN] at this; exact this
  have Hr : Hid (numR (bs s) = numR2 (bs s) z m e) := by show _ = _; unfold numR; rw [hN]
  by_cases he : e = 0
  · subst he
    obtain ⟨hb1, hz1, hz2, hml⟩ := num_back hN
    rw [bs_length] at hml
    by_cases hl : ∃ h : m < s.size, s[m].toNat = 108
    · obtain ⟨hlt, hl⟩ := hl
      have Hv : Hid (resV (numR (bs s)) = .tuple #[VV 2 z ⟨#[]⟩, .int .i64 ((m + 1 : Nat) : Int), .int .i64 0]) := by
        show _ = _
        refine resV_eq (t := []) ?_
        rw [Hr.out]
        unfold numR2
        rw [if_pos rfl, if_pos (by rw [bs_at s m hlt, UInt8.toNat_inj.1 (show s[m].toNat = (108 : UInt8).toNat from hl)])]
      have d1 : ((s[m].toNat : Int) == 108) = true := by simp; omega
      clear hl hN hb1 Hr
      go_enter Tryz.func104, Tryz.ntmps104
      go_wp2_with fail
      refine (H1.out _).mono ?_
      rintro e w1 ⟨rfl, rfl⟩
      go_wp2_with fail
      refine (vlong_any z _).mono ?_
      rintro e w1 ⟨rfl, hb1⟩
      have HB := Lib.hid ((Blk3.new w _ _ _ _).below hb1 (by simp))
      obtain ⟨c0, c1, c2, f0, f1, f2⟩ := HB.out
      have hb' := below_new hb1
      go_wp2_with fail
      try simp only [Exit.inBlock, Exit.then]
      refine bodyPost_ret (results_v3 rfl _ _ rfl HB.out.set3) rfl ?_
      exact ⟨by rw [Hv.out]; rfl, by go_grown⟩
    · have Hv : Hid (numR (bs s) = resW (1, z, []) m (inE z)) := by
        show _ = _
        rw [Hr.out]
        unfold numR2
        rw [if_pos rfl, if_neg ?_]
        intro h108
        obtain ⟨h1, h2⟩ := List.getElem?_eq_some_iff.1 h108
        rw [bs_length] at h1
        refine hl ⟨h1, ?_⟩
        have h3 := bs_at s m h1
        rw [h108] at h3
        rw [← Option.some.inj h3]; rfl
      have hway : decide (m < s.size) = false ∨ ∃ h : m < s.size, ((s[m].toNat : Int) == 108) = false := by
        by_cases h : m < s.size
        · refine .inr ⟨h, ?_⟩
          have : s[m].toNat ≠ 108 := fun h2 => hl ⟨h, h2⟩
          simp; omega
        · exact .inl (by simpa using h)
      have H2 := Lib.hid (fun w => vint_any z w)
      have HiV : Hid (inV z = .tuple #[if inE z = 0 then VV 1 z ⟨#[]⟩ else VV 0 0 ⟨#[]⟩, .int .i64 (inE z : Nat)]) := rfl
      have hc : inE z = 0 ∨ inE z = 10 := by unfold inE; split <;> simp
      clear hl hN hb1 Hr
      rcases hc with hc | hc
      · rw [hc] at HiV Hv
        rw [HiV.out] at H2
        have Hf : Hid (resV (numR (bs s)) = .tuple #[VV 1 z ⟨#[]⟩, .int .i64 (m : Nat), .int .i64 0]) := by show _ = _; rw [Hv.out]; exact resV_eq (t := []) rfl
        rcases hway with hw | ⟨hlt, hw⟩
        all_goals
          go_enter Tryz.func104, Tryz.ntmps104
          go_wp2_with fail
          refine (H1.out _).mono ?_
          rintro e w1 ⟨rfl, rfl⟩
          go_wp2_with fail
          refine (H2.out _).mono ?_
          rintro e w1 ⟨rfl, hb1⟩
          have HB := Lib.hid ((Blk3.new w _ _ _ _).below hb1 (by simp))
          have hlt1 := new_lt hb1
          have hb' := below_new hb1
          go_wp2_with fail
          refine (sized_ok _ _ _ _ _).mono ?_
          rintro e w2 ⟨rfl, hb2⟩
          have HB2 := Lib.hid ((HB.out.alloc hlt1 _).below hb2 (by simp; omega))
          have hb2' := hb'.trans ((below_new hb2).mono (Nat.le_of_lt hlt1))
          obtain ⟨c0, c1, c2, f0, f1, f2⟩ := HB2.out
          go_wp2_with fail
          try simp only [Exit.inBlock, Exit.then]
          refine bodyPost_ret (results_v3 rfl _ _ rfl HB2.out.set3) rfl ?_
          exact ⟨by rw [Hf.out]; rfl, by go_grown⟩
      · rw [hc] at HiV Hv
        rw [HiV.out] at H2
        have Hf : Hid (resV (numR (bs s)) = .tuple #[VV 0 0 ⟨#[]⟩, .int .i64 0, .int .i64 10]) := by show _ = _; rw [Hv.out]; exact resV_eq (t := []) rfl
        rcases hway with hw | ⟨hlt, hw⟩
        all_goals
          go_enter Tryz.func104, Tryz.ntmps104
          go_wp2_with fail
          refine (H1.out _).mono ?_
          rintro e w1 ⟨rfl, rfl⟩
          go_wp2_with fail
          refine (H2.out _).mono ?_
          rintro e w1 ⟨rfl, hb1⟩
          have HB := Lib.hid ((Blk3.new w _ _ _ _).below hb1 (by simp))
          have hlt1 := new_lt hb1
          have hb' := below_new hb1
          go_wp2_with fail
          refine (sized_err _ _ _ _ _ _ (by decide)).mono ?_
          rintro e w2 ⟨rfl, hb2⟩
          have HB2 := Lib.hid ((HB.out.alloc hlt1 _).below hb2 (by simp; omega))
          have hb2' := hb'.trans ((below_new hb2).mono (Nat.le_of_lt hlt1))
          obtain ⟨c0, c1, c2, f0, f1, f2⟩ := HB2.out
          go_wp2_with fail
          try simp only [Exit.inBlock, Exit.then]
          refine bodyPost_ret (results_v3 rfl _ _ rfl HB2.out.set3) rfl ?_
          exact ⟨by rw [Hf.out]; rfl, by go_grown⟩
  · have Hv : Hid (resV (numR (bs s)) = .tuple #[VV 0 0 ⟨#[]⟩, .int .i64 0, .int .i64 (e : Nat)]) := by
      show _ = _
      refine resV_eq (t := []) ?_
      rw [Hr.out]
      unfold numR2
      rw [if_neg he]
    have d1 : ((e : Int) != 0) = true := by simp; omega
    clear hN Hr he
    go_enter Tryz.func104, Tryz.ntmps104
    go_wp2_with fail
    refine (H1.out _).mono ?_
    rintro e w1 ⟨rfl, rfl⟩
    go_wp2_with fail
    go_returns
    exact ⟨by rw [Hv.out], by go_grown⟩

theorem txV_ok {s : ByteArray} (h : txE (bs s) = 0) : txV s = .tuple #[VV 3 0 s, .int .i64 0] := by unfold txV; rw [h]; rfl
theorem txV_err {s : ByteArray} {e : Nat} (h : txE (bs s) = e) (he : e ≠ 0) : txV s = .tuple #[VV 0 0 ⟨#[]⟩, .int .i64 (e : Nat)] := by unfold txV; rw [h, if_neg he]
theorem byV_ok {s : ByteArray} (h : byE (bs s) = 0) : byV s = .tuple #[VV 4 0 s, .int .i64 0] := by unfold byV; rw [h]; rfl
theorem byV_err {s : ByteArray} {e : Nat} (h : byE (bs s) = e) (he : e ≠ 0) : byV s = .tuple #[VV 0 0 ⟨#[]⟩, .int .i64 (e : Nat)] := by unfold byV; rw [h, if_neg he]
set_option maxRecDepth 100000 in
set_option maxHeartbeats 1600000 in
theorem readText_any (s : ByteArray) (w : World) (ht : UTab w) (hs : s.size ≤ 1000000) : Calls Tryz.prog 105 #[.string s] w fun e w' => e = .returned (resV (txtR (bs s))) ∧ Below w.heap.size w w' := by
  have HT := Lib.hid ht; clear ht
  have H1 := Lib.hid (fun w => unquote_any s w hs)
  obtain ⟨⟨t, m, ok⟩, hU⟩ : ∃ r, uq (bs s) = r := ⟨_, rfl⟩
  cases ok
  · obtain ⟨rfl, rfl⟩ := uq_false hU
    rw [uqV_no hU] at H1
    have Hv : Hid (resV (txtR (bs s)) = .tuple #[VV 0 0 ⟨#[]⟩, .int .i64 0, .int .i64 5]) := by
      show _ = _
      refine resV_eq (t := []) ?_
      unfold txtR
      rw [hU]; rfl
    go_enter Tryz.func105, Tryz.ntmps105
    go_wp2_with fail
    refine (H1.out _).mono ?_
    rintro e w1 ⟨rfl, hb1⟩
    have HB := Lib.hid ((Blk3.new w _ _ _ _).below hb1 (by simp))
    obtain ⟨c0, c1, c2, f0, f1, f2⟩ := HB.out
    have hb' := below_new hb1
    go_wp2_with fail
    try simp only [Exit.inBlock, Exit.then]
    refine bodyPost_ret (results_v3 rfl _ _ rfl HB.out.set3) rfl ?_
    exact ⟨by rw [Hv.out]; rfl, by go_grown⟩
  · rw [uqV_yes hU] at H1
    have Hv : Hid (txtR (bs s) = resW (3, 0, t) m (txE t)) := by
      show _ = _
      unfold txtR
      rw [hU]; rfl
    have H2 : Hid (∀ w, UTab w → Calls Tryz.prog 132 #[.string ⟨t.toArray⟩] w fun e w' => e = .returned (txV ⟨t.toArray⟩) ∧ Below w.heap.size w w') := fun w h => vtext_any _ w h
    have hbs : bs (⟨t.toArray⟩ : ByteArray) = t := bs_mk t
    rcases txE_cases t with hc | hc | hc
    · have Hf : Hid (resV (txtR (bs s)) = .tuple #[VV 3 0 ⟨t.toArray⟩, .int .i64 (m : Nat), .int .i64 0]) := by show _ = _; rw [Hv.out, hc]; exact resV_eq rfl
      rw [txV_ok (by rw [hbs]; exact hc)] at H2
      clear hbs hU Hv
      generalize (⟨t.toArray⟩ : ByteArray) = T at H1 H2 Hf
      go_enter Tryz.func105, Tryz.ntmps105
      go_wp2_with fail
      refine (H1.out _).mono ?_
      rintro e w1 ⟨rfl, hb1⟩
      have HB := Lib.hid ((Blk3.new w _ _ _ _).below hb1 (by simp))
      have hlt1 := new_lt hb1
      have hb' := below_new hb1
      have HT1 := Lib.hid (HT.out.below hb' (Nat.le_refl _))
      clear hb1
      go_wp2_with fail
      refine (H2.out _ HT1.out).mono ?_
      rintro e w2 ⟨rfl, hb2⟩
      have HB2 := Lib.hid (HB.out.below hb2 hlt1)
      have hlt2 : w.heap.size < w2.heap.size := by have := hb2.size; omega
      have hb2' := hb'.trans (hb2.mono (Nat.le_of_lt hlt1))
      clear hb2 hb' HB HT1
      go_wp2_with fail
      refine (sized_ok _ _ _ _ _).mono ?_
      rintro e w3 ⟨rfl, hb3⟩
      have HB3 := Lib.hid ((HB2.out.alloc hlt2 _).below hb3 (by simp; omega))
      have hb3' := hb2'.trans ((below_new hb3).mono (Nat.le_of_lt hlt2))
      clear hb3 hb2'
      obtain ⟨c0, c1, c2, f0, f1, f2⟩ := HB3.out
      go_wp2_with fail
      try simp only [Exit.inBlock, Exit.then]
      refine bodyPost_ret (results_v3 rfl _ _ rfl HB3.out.set3) rfl ?_
      exact ⟨by rw [Hf.out]; rfl, by go_grown⟩
    all_goals
      have Hf : Hid (resV (txtR (bs s)) = .tuple #[VV 0 0 ⟨#[]⟩, .int .i64 0, .int .i64 (txE t : Nat)]) := by show _ = _; rw [Hv.out, hc]; exact resV_eq (t := []) rfl
      rw [txV_err (e := txE t) (by rw [hbs]) (by rw [hc]; decide)] at H2
      rw [hc] at H2 Hf
      clear hbs hU Hv
      generalize (⟨t.toArray⟩ : ByteArray) = T at H1 H2
      go_enter Tryz.func105, Tryz.ntmps105
      go_wp2_with fail
      refine (H1.out _).mono ?_
      rintro e w1 ⟨rfl, hb1⟩
      have HB := Lib.hid ((Blk3.new w _ _ _ _).below hb1 (by simp))
      have hlt1 := new_lt hb1
      have hb' := below_new hb1
      have HT1 := Lib.hid (HT.out.below hb' (Nat.le_refl _))
      clear hb1
      go_wp2_with fail
      refine (H2.out _ HT1.out).mono ?_
      rintro e w2 ⟨rfl, hb2⟩
      have HB2 := Lib.hid (HB.out.below hb2 hlt1)
      have hlt2 : w.heap.size < w2.heap.size := by have := hb2.size; omega
      have hb2' := hb'.trans (hb2.mono (Nat.le_of_lt hlt1))
      clear hb2 hb' HB HT1
      go_wp2_with fail
      refine (sized_err _ _ _ _ _ _ (by decide)).mono ?_
      rintro e w3 ⟨rfl, hb3⟩
      have HB3 := Lib.hid ((HB2.out.alloc hlt2 _).below hb3 (by simp; omega))
      have hb3' := hb2'.trans ((below_new hb3).mono (Nat.le_of_lt hlt2))
      clear hb3 hb2'
      obtain ⟨c0, c1, c2, f0, f1, f2⟩ := HB3.out
      go_wp2_with fail
      try simp only [Exit.inBlock, Exit.then]
      refine bodyPost_ret (results_v3 rfl _ _ rfl HB3.out.set3) rfl ?_
      exact ⟨by rw [Hf.out]; rfl, by go_grown⟩
end Go.Proofs.YtebldfnocpcddaaGreatDoor

/-
  Contracts of strings.Cut at a quote and of package value's fromHex.
-/
namespace Go.Proofs.YtebldfnocpcddaaGreatDoor
open Go.RowKit

theorem index_quote (s : ByteArray) (w : World) : Calls Tryz.prog 154 #[.string s, .string ⟨#[34]⟩] w fun e w' => e = .returned (.int .i64 (Lib.indexByte (bs s) 34)) ∧ w = w' :=
  (Any.stringslite_Index_one lay_Lays_n219 s 34 w).mono fun _ _ ⟨h1, h2⟩ => ⟨h1, h2.symm⟩

set_option maxRecDepth 100000 in
set_option maxHeartbeats 800000 in
theorem qcut_no (s : ByteArray) (w : World) (h : Lib.indexByte (bs s) 34 = -1) : Calls Tryz.prog 133 #[.string s, .string ⟨#[34]⟩] w fun e w' => e = .returned (.tuple #[.string s, .string ⟨#[]⟩, .bool false]) ∧ Drew w w' := by
  have HI := Lib.hid (index_quote s w)
  rw [h] at HI
  have HC : Hid (Calls Tryz.prog 148 #[.string s, .string ⟨#[34]⟩] w fun e w' => e = .returned (.tuple #[.string s, .string ⟨#[]⟩, .bool false]) ∧ Drew w w') := by
    show Calls _ _ _ _ _
    go_enter Tryz.func148, Tryz.ntmps148
    go_wp2_with (go_at_call 154; refine HI.out.mono ?_; rintro e w1 ⟨rfl, rfl⟩)
    go_ret3
    exact ⟨rfl, Drew.refl _⟩
  go_enter Tryz.func133, Tryz.ntmps133
  go_wp2_with (go_at_call 148; refine HC.out.mono ?_; rintro e w1 ⟨rfl, hd⟩)
  go_ret3
  exact ⟨rfl, hd⟩
set_option maxRecDepth 100000 in
set_option maxHeartbeats 800000 in
theorem qcut_yes (s : ByteArray) (k : Nat) (w : World) (h : Lib.indexByte (bs s) 34 = k) (hk : k < s.size) (hs : s.size ≤ 1000000) :
    Calls Tryz.prog 133 #[.string s, .string ⟨#[34]⟩] w fun e w' => e = .returned (.tuple #[.string (s.extract 0 k), .string (s.extract (k + 1) s.size), .bool true]) ∧ Drew w w' := by
  have HI := Lib.hid (index_quote s w)
  rw [h] at HI
  have HC : Hid (Calls Tryz.prog 148 #[.string s, .string ⟨#[34]⟩] w fun e w' => e = .returned (.tuple #[.string (s.extract 0 k), .string (s.extract (k + 1) s.size), .bool true]) ∧ Drew w w') := by
    show Calls _ _ _ _ _
    have i1 : (k : Int) ≤ (s.size : Int) := by omega
    have i2 : (k : Int) + 1 ≤ (s.size : Int) := by omega
    have i3 : (0 : Int) ≤ (k : Int) := by omega
    go_enter Tryz.func148, Tryz.ntmps148
    go_wp2_with (go_at_call 154; refine HI.out.mono ?_; rintro e w1 ⟨rfl, rfl⟩)
    go_quiet (fail)
    go_wp2
    go_ret3
    exact ⟨rfl, ⟨_, rfl⟩⟩
  go_enter Tryz.func133, Tryz.ntmps133
  go_wp2_with (go_at_call 148; refine HC.out.mono ?_; rintro e w1 ⟨rfl, hd⟩)
  go_ret3
  exact ⟨rfl, hd⟩

/-- how fromHex ends -/
def FromV (l : List UInt8) (w : World) (e : Ending) (w' : World) : Prop :=
  ((∃ t, l = hxs t ∧ e = .returned (.tuple #[.string ⟨t.toArray⟩, .bool true])) ∨ ((∀ t, l ≠ hxs t) ∧ e = .returned (.tuple #[.string ⟨#[]⟩, .bool false]))) ∧ Below w.heap.size w w'
/-- the first i bytes are there -/
def Fro (l b : List UInt8) (n i : Nat) : Prop := b.length = n ∧ i ≤ n ∧ l.take (2 * i) = hxs (b.take i)
theorem Fro.start (l : List UInt8) (n : Nat) : Fro l (List.replicate n 0) n 0 := ⟨by simp, by omega, by simp [hxs]⟩
theorem Fro.more {l b : List UInt8} {n i : Nat} {x y : UInt8} (h : Fro l b n i) (hi : i < n) (h1 : l[2 * i]? = some x) (h2 : l[2 * i + 1]? = some y) (hx1 : 0 ≤ hx x) (hy : 0 ≤ hx y) :
    Fro l (b.set i (UInt8.ofNat (16 * (hx x).toNat + (hx y).toNat))) n (i + 1) := by
  obtain ⟨hb, _, ht⟩ := h
  refine ⟨by simpa using hb, by omega, ?_⟩
  rw [show 2 * (i + 1) = 2 * i + 1 + 1 by omega, take_at h2, take_at h1, ht]
  have e : (b.set i (UInt8.ofNat (16 * (hx x).toNat + (hx y).toNat))).take (i + 1) = b.take i ++ [UInt8.ofNat (16 * (hx x).toNat + (hx y).toNat)] := by
    rw [List.take_succ_eq_append_getElem (by simp; omega), List.getElem_set_self, List.take_set_of_le (by omega)]
  rw [e, hxs_snoc, hp_of hx1 hy, List.append_assoc]; rfl
theorem Fro.stop {l b : List UInt8} {n : Nat} (h : Fro l b n n) (hl : l.length = 2 * n) : l = hxs b := by
  obtain ⟨hb, _, ht⟩ := h
  rw [List.take_of_length_le (by omega), List.take_of_length_le (by omega)] at ht; exact ht
theorem from_no {l : List UInt8} {k : Nat} {x : UInt8} (h : l[k]? = some x) (hx1 : hx x < 0) : ∀ t, l ≠ hxs t := fun t e => by
  have := (hxs_mem (l := t) (d := x) (by rw [← e]; exact List.mem_of_getElem? h)).1
  omega
theorem from_odd {l : List UInt8} (h : l.length % 2 ≠ 0) : ∀ t, l ≠ hxs t := fun t e => by
  rw [e, hxs_len] at h; omega

set_option maxRecDepth 100000 in
set_option maxHeartbeats 1600000 in
theorem fromHex_any (s : ByteArray) (w : World) (hs : s.size ≤ 1000000) : Calls Tryz.prog 134 #[.string s] w fun e w' => FromV (bs s) w e w' := by
  have hm0 : (0 : Int) ≤ (s.size : Int) % 2 := by omega
  by_cases hodd : s.size % 2 = 0
  · have d : ((s.size : Int) % 2 != 0) = false := by simp; omega
    obtain ⟨n, hn⟩ : ∃ n, s.size = 2 * n := ⟨s.size / 2, by omega⟩
    have hdiv : (s.size : Int) / 2 = (n : Int) := by omega
    have Hs2 := Lib.hid hn
    have hn1 : n ≤ 500000 := by omega
    clear hn
    go_enter Tryz.func134, Tryz.ntmps134
    go_wp2_with (with_reducible refine wpList_make_bytes rfl _ _ rfl w.heap.size n .i64 .i64 (n : Int) (n : Int) rfl rfl rfl rfl (by omega) (Nat.le_refl _) ?_; intro w1 ho1 hb1)
    go_loopw [18] (fun i wr => ∃ (k : Nat) (b : List UInt8), k ≤ n ∧ i = .int .i64 k ∧ Hid (Fro (bs s) b n k) ∧ Hid (OwnB wr w.heap.size (.slice (some ⟨w.heap.size, 0, none⟩) n n) b) ∧ Below w.heap.size w wr) (fun i _ => n - (intOf i).toNat)
    case atStart => exact ⟨0, _, by omega, rfl, Fro.start _ _, ho1, hb1⟩
    case round =>
      obtain ⟨k, b, hk, rfl, hf, ho, hb⟩ := hrel
      by_cases hlt : k < n
      · have h2k : 2 * k < s.size := by have := Hs2.out; omega
        have h2k1 : 2 * k + 1 < s.size := by have := Hs2.out; omega
        have A1 := Lib.hid (bs_at s (2 * k) h2k)
        have A2 := Lib.hid (bs_at s (2 * k + 1) h2k1)
        have i1 : (2 * (k : Int)) < (s.size : Int) := by omega
        have i2 : (2 * (k : Int)) + 1 < (s.size : Int) := by omega
        have i3 : (0 : Int) ≤ 2 * (k : Int) := by omega
        have H1 := Lib.hid (fun w => (indexHex s[2 * k] w).mono fun e w' ⟨h1, h2⟩ => (⟨h1, h2.symm⟩ : e = _ ∧ w = w'))
        have H2 := Lib.hid (fun w => (indexHex s[2 * k + 1] w).mono fun e w' ⟨h1, h2⟩ => (⟨h1, h2.symm⟩ : e = _ ∧ w = w'))
        have r1 := hx_range s[2 * k]
        have r2 := hx_range s[2 * k + 1]
        have HN1 := Lib.hid (fun h => from_no A1.out h)
        have HN2 := Lib.hid (fun h => from_no A2.out h)
        have HM := Lib.hid (fun h1 h2 => hf.out.more hlt A1.out A2.out h1 h2)
        go_wp2_with fail
        refine (H1.out _).mono ?_
        rintro e w2 ⟨rfl, rfl⟩
        go_wp2_with fail
        refine (H2.out _).mono ?_
        rintro e w2 ⟨rfl, rfl⟩
        clear H1 H2
        generalize hx s[2 * k] = X at r1 HN1 HM ⊢
        generalize hx s[2 * k + 1] = Y at r2 HN2 HM ⊢
        by_cases hX : X < 0
        · have e1 : decide (X < 0) = true := by simp; omega
          have Hn := Lib.hid (HN1.out hX)
          clear HN1 HN2 HM
          go_wp2_with fail
          go_ret2
          exact ⟨.inr ⟨Hn.out, rfl⟩, hb⟩
        · have e1 : decide (X < 0) = false := by simp; omega
          by_cases hY : Y < 0
          · have e2 : decide (Y < 0) = true := by simp; omega
            have Hn := Lib.hid (HN2.out hY)
            clear HN1 HN2 HM
            go_wp2_with fail
            go_ret2
            exact ⟨.inr ⟨Hn.out, rfl⟩, hb⟩
          · have e2 : decide (Y < 0) = false := by simp; omega
            have Hor := Lib.hid (or16 X Y (by omega) (by omega) (by omega) (by omega))
            have Hn := Lib.hid (HM.out (by omega) (by omega))
            have hbl : b.length = n := hf.out.1
            have c1 := ho.out.at k b[k] (List.getElem?_eq_getElem (by omega))
            have f1 := ho.out.thawed hbl k
            have Hset := Lib.hid (ho.out.set hbl k (UInt8.ofNat (16 * X.toNat + Y.toNat)))
            rw [← Hor.out] at Hset
            generalize (Value.int .u8 (b[k].toNat : Int)) = v0 at c1
            clear HN1 HN2 HM hbl
            go_wp2_with fail
            go_roundw
            case rel => exact ⟨k + 1, _, by omega, by go_num, Hn.out, Hset.out, hb.setCell (by simp) _⟩
            case measure => simp [intOf]; omega
      · obtain rfl : k = n := by omega
        have Hn := Lib.hid (hf.out.stop (by rw [bs_length]; exact Hs2.out))
        have hcv := run_string_own ho.out wr (fun _ => rfl)
        go_wp2
        go_ret2
        exact ⟨.inl ⟨b, Hn.out, rfl⟩, hb⟩
  · have d : ((s.size : Int) % 2 != 0) = true := by simp; omega
    have Hn := Lib.hid (from_odd (l := bs s) (by rw [bs_length]; exact hodd))
    go_enter Tryz.func134, Tryz.ntmps134
    go_wp2_with fail
    go_ret2
    exact ⟨.inr ⟨Hn.out, rfl⟩, Below.refl _ _⟩
end Go.Proofs.YtebldfnocpcddaaGreatDoor

/-
  Contract of package value's readBytes.
-/
namespace Go.Proofs.YtebldfnocpcddaaGreatDoor
open Go.RowKit

/-- how the digits are parted from the rest -/
theorem cut_cases (s : ByteArray) (hs : s.size ≤ 1000000) (h2 : 2 ≤ s.size) : ∃ (D X : ByteArray) (ok : Bool), (∀ w, Calls Tryz.prog 133 #[.string (s.extract 2 s.size), .string ⟨#[34]⟩] w fun e w' => e = .returned (.tuple #[.string D, .string X, .bool ok]) ∧ Drew w w') ∧ D.size ≤ 1000000 ∧
    (ok = false → bytR (bs s) = ((0, 0, []), 0, 5)) ∧ (ok = true → (∀ t, bs D = hxs t → bytR (bs s) = resW (4, 0, t) (D.size + 3) (byE t)) ∧ ((∀ t, bs D ≠ hxs t) → bytR (bs s) = ((0, 0, []), 0, 5))) := by
  have hsz : (s.extract 2 s.size).size = s.size - 2 := by simp
  have hbs : bs (s.extract 2 s.size) = (bs s).drop 2 := bs_rest s 2
  rcases idx_split (bs (s.extract 2 s.size)) 34 with ⟨h1, h3⟩ | ⟨a, b, h1, h3, h4⟩
  · refine ⟨_, _, false, fun w => qcut_no _ w h1, by omega, fun _ => ?_, fun h => by cases h⟩
    unfold bytR
    rw [← hbs, uh_none h3]; rfl
  · have hk : a.length < (s.extract 2 s.size).size := by rw [← bs_length, h1]; simp
    refine ⟨_, _, true, fun w => qcut_yes _ a.length w h4 hk (by omega), by simp; omega, (fun h => by cases h), fun _ => ?_⟩
    have hD : bs ((s.extract 2 s.size).extract 0 a.length) = a := by rw [bs_front, h1]; simp
    have hDl : ((s.extract 2 s.size).extract 0 a.length).size = a.length := by rw [← bs_length, hD]
    obtain ⟨u1, u2⟩ := uh_split (a := a) (b := b) h3
    refine ⟨fun t ht => ?_, fun ht => ?_⟩
    · unfold bytR
      rw [← hbs, h1, u1 t (by rw [← hD]; exact ht), hDl]; rfl
    · unfold bytR
      rw [← hbs, h1, u2 (fun t e => ht t (by rw [hD]; exact e))]; rfl

set_option maxRecDepth 100000 in
set_option maxHeartbeats 1600000 in
theorem readBytes_any (s : ByteArray) (w : World) (hs : s.size ≤ 1000000) (h2 : 2 ≤ s.size) : Calls Tryz.prog 106 #[.string s] w fun e w' => e = .returned (resV (bytR (bs s))) ∧ Below w.heap.size w w' := by
  obtain ⟨D, X, ok, hC, hD, hno, hyes⟩ := cut_cases s hs h2
  have HC := Lib.hid hC; clear hC
  have Hno := Lib.hid hno; clear hno
  have Hyes := Lib.hid hyes; clear hyes
  have i2 : (2 : Int) ≤ (s.size : Int) := by omega
  have hcv := fun w' => run_string_one w' (w.heap.size + 1) 1 34 34 rfl
  go_enter Tryz.func106, Tryz.ntmps106
  go_upto_region 1 with fail
  go_cut [5, 6, 7] (fun x5 x6 x7 wx => x5 = .string D ∧ x6 = .string X ∧ x7 = .bool ok ∧ Below w.heap.size w wx ∧ w.heap.size < wx.heap.size ∧ Hid (Blk3 wx w.heap.size (.int .i64 0) (.int .i64 0) (.string ⟨#[]⟩)))
  case first =>
    go_region_with (go_at_call 133; refine (HC.out _).mono ?_; rintro e w1 ⟨rfl, hd⟩)
    all_goals
      have hB : Below (w.heap.size + 1) (w.alloc (.cells #[.int .i64 0, .int .i64 0, .string ⟨#[]⟩] 25)) w1 := Below.trans (by go_grown) (hd.below _)
      have hB0 : Below w.heap.size w w1 := ((Below.refl _ _).alloc (Nat.le_refl _) _).trans (hB.mono (by omega))
      have hlt : w.heap.size < w1.heap.size := by have := hB.size; simp at this; omega
      have HB : Hid (Blk3 w1 w.heap.size (.int .i64 0) (.int .i64 0) (.string ⟨#[]⟩)) := (Blk3.new w _ _ _ _).below hB (by omega)
      clear hB hd
      go_wp2_with fail
      go_meet
      exact ⟨rfl, rfl, rfl, hB0, hlt, HB⟩
  case rest =>
    obtain ⟨rfl, rfl, rfl, hb0, hlt0, HB⟩ := hcut
    clear hcv HC
    cases ok
    · have Hv : Hid (resV (bytR (bs s)) = .tuple #[VV 0 0 ⟨#[]⟩, .int .i64 0, .int .i64 5]) := by show _ = _; rw [Hno.out rfl]; exact resV_eq (t := []) rfl
      obtain ⟨c0, c1, c2, f0, f1, f2⟩ := HB.out
      go_wp2_with fail
      try simp only [Exit.inBlock, Exit.then]
      refine bodyPost_ret (results_v3 rfl _ _ rfl HB.out.set3) rfl ?_
      exact ⟨by rw [Hv.out]; rfl, by go_grown⟩
    · obtain ⟨hy1, hy2⟩ := Hyes.out rfl
      have Hy1 := Lib.hid hy1; clear hy1
      have Hy2 := Lib.hid hy2; clear hy2
      clear Hyes Hno
      go_wp2_with fail
      refine (fromHex_any D _ hD).mono ?_
      rintro e w1 ⟨⟨t, ht, rfl⟩ | ⟨hn, rfl⟩, hb1⟩
      · have Hv := Lib.hid (Hy1.out t ht)
        have HB1 := Lib.hid (HB.out.below hb1 hlt0)
        have hlt1 : w.heap.size < w1.heap.size := by have := hb1.size; omega
        have hb1' := hb0.trans (hb1.mono (Nat.le_of_lt hlt0))
        have H2 : Hid (∀ w, Calls Tryz.prog 135 #[.string ⟨t.toArray⟩] w fun e w' => e = .returned (byV ⟨t.toArray⟩) ∧ Below w.heap.size w w') := fun w => vbytes_any _ w
        have hbs : bs (⟨t.toArray⟩ : ByteArray) = t := bs_mk t
        clear Hy1 Hy2 HB hb0 hb1 ht hlt0
        rcases byE_cases t with hc | hc
        · have Hf : Hid (resV (bytR (bs s)) = .tuple #[VV 4 0 ⟨t.toArray⟩, .int .i64 ((D.size + 3 : Nat) : Int), .int .i64 0]) := by show _ = _; rw [Hv.out, hc]; exact resV_eq rfl
          rw [byV_ok (by rw [hbs]; exact hc)] at H2
          clear hbs Hv
          generalize (⟨t.toArray⟩ : ByteArray) = T at H2 Hf ⊢
          go_wp2_with fail
          refine (H2.out _).mono ?_
          rintro e w2 ⟨rfl, hb2⟩
          have HB2 := Lib.hid (HB1.out.below hb2 hlt1)
          have hlt2 : w.heap.size < w2.heap.size := by have := hb2.size; omega
          have hb2' := hb1'.trans (hb2.mono (Nat.le_of_lt hlt1))
          clear hb2 hb1' HB1
          go_wp2_with fail
          refine (sized_ok _ _ _ _ _).mono ?_
          rintro e w3 ⟨rfl, hb3⟩
          have HB3 := Lib.hid ((HB2.out.alloc hlt2 _).below hb3 (by simp; omega))
          have hb3' := hb2'.trans ((below_new hb3).mono (Nat.le_of_lt hlt2))
          clear hb3 hb2'
          obtain ⟨c0, c1, c2, f0, f1, f2⟩ := HB3.out
          go_wp2_with fail
          try simp only [Exit.inBlock, Exit.then]
          refine bodyPost_ret (results_v3 rfl _ _ rfl HB3.out.set3) rfl ?_
          exact ⟨by rw [Hf.out, show ((D.size + 3 : Nat) : Int) = 2 + (D.size : Int) + 1 by omega]; rfl, by go_grown⟩
        · have Hf : Hid (resV (bytR (bs s)) = .tuple #[VV 0 0 ⟨#[]⟩, .int .i64 0, .int .i64 3]) := by show _ = _; rw [Hv.out, hc]; exact resV_eq (t := []) rfl
          rw [byV_err (e := 3) (by rw [hbs]; exact hc) (by decide)] at H2
          clear hbs Hv
          generalize (⟨t.toArray⟩ : ByteArray) = T at H2 ⊢
          go_wp2_with fail
          refine (H2.out _).mono ?_
          rintro e w2 ⟨rfl, hb2⟩
          have HB2 := Lib.hid (HB1.out.below hb2 hlt1)
          have hlt2 : w.heap.size < w2.heap.size := by have := hb2.size; omega
          have hb2' := hb1'.trans (hb2.mono (Nat.le_of_lt hlt1))
          clear hb2 hb1' HB1
          go_wp2_with fail
          refine (sized_err _ _ _ _ _ _ (by decide)).mono ?_
          rintro e w3 ⟨rfl, hb3⟩
          have HB3 := Lib.hid ((HB2.out.alloc hlt2 _).below hb3 (by simp; omega))
          have hb3' := hb2'.trans ((below_new hb3).mono (Nat.le_of_lt hlt2))
          clear hb3 hb2'
          obtain ⟨c0, c1, c2, f0, f1, f2⟩ := HB3.out
          go_wp2_with fail
          try simp only [Exit.inBlock, Exit.then]
          refine bodyPost_ret (results_v3 rfl _ _ rfl HB3.out.set3) rfl ?_
          exact ⟨by rw [Hf.out]; rfl, by go_grown⟩
      · have Hv : Hid (resV (bytR (bs s)) = .tuple #[VV 0 0 ⟨#[]⟩, .int .i64 0, .int .i64 5]) := by show _ = _; rw [Hy2.out hn]; exact resV_eq (t := []) rfl
        have HB1 := Lib.hid (HB.out.below hb1 hlt0)
        have hb1' := hb0.trans (hb1.mono (Nat.le_of_lt hlt0))
        clear Hy1 Hy2 HB hb0 hb1 hn
        obtain ⟨c0, c1, c2, f0, f1, f2⟩ := HB1.out
        go_wp2_with fail
        try simp only [Exit.inBlock, Exit.then]
        refine bodyPost_ret (results_v3 rfl _ _ rfl HB1.out.set3) rfl ?_
        exact ⟨by rw [Hv.out]; rfl, by go_grown⟩
end Go.Proofs.YtebldfnocpcddaaGreatDoor

/-
  Contracts of package value's Read and Parse.
-/
namespace Go.Proofs.YtebldfnocpcddaaGreatDoor
open Go.RowKit

theorem cmp_false' {a b : ByteArray} (h : bs a ≠ bs b) : (a.toList == b.toList) = false := cmp_ne (fun e => h (by rw [e]))
theorem pre2 (l : List UInt8) : [120, 34].isPrefixOf l = decide (l.take 2 = [120, 34]) := by
  match l with
  | [] => rfl
  | [a] => simp [List.isPrefixOf]
  | a :: b :: r =>
    rw [Bool.eq_iff_iff]
    simp [List.isPrefixOf]
    exact ⟨fun ⟨h1, h2⟩ => ⟨h1.symm, h2.symm⟩, fun ⟨h1, h2⟩ => ⟨h1.symm, h2.symm⟩⟩
theorem numB_at {l : List UInt8} {c : UInt8} (h : l[0]? = some c) : numB l = (decide (c = 45) || isD c) := by
  cases l with
  | nil => simp at h
  | cons a r => simp at h; subst h; rfl

set_option maxRecDepth 100000 in
set_option maxHeartbeats 1600000 in
theorem vread_any (s : ByteArray) (w : World) (ht : UTab w) (hs : s.size ≤ 1000000) : Calls Tryz.prog 86 #[.string s] w fun e w' => e = .returned (resV (readW (bs s))) ∧ Below w.heap.size w w' := by
  have HT := Lib.hid ht; clear ht
  have H1 := Lib.hid (fun w => nread_any s w hs)
  have hle := rdN_le (bs s)
  rw [bs_length] at hle
  have Hfr := Lib.hid (bs_front s (rdN (bs s)))
  have Hrd : Hid (rdN (bs s) = rdN (bs s)) := rfl
  generalize hn : rdN (bs s) = n at H1 hle Hfr
  have i0 : (0 : Int) ≤ (n : Int) := by omega
  have i1 : (n : Int) ≤ (s.size : Int) := by omega
  have Hn := Lib.hid hn; clear hn Hrd
  by_cases hA : (bs s).take n = nullT
  · have Hv : Hid (resV (readW (bs s)) = .tuple #[VV 0 0 ⟨#[]⟩, .int .i64 4, .int .i64 0]) := by show _ = _; exact resV_eq (t := []) (readW_null (by rw [Hn.out]; exact hA))
    have hX : s.extract 0 n = ⟨#[110, 117, 108, 108]⟩ := bs_eq (Hfr.out.trans hA)
    go_enter Tryz.func86, Tryz.ntmps86
    go_wp2_with fail
    refine (H1.out _).mono ?_
    rintro e w1 ⟨rfl, rfl⟩
    go_wp2_with fail
    go_returns
    exact ⟨by rw [Hv.out], by go_grown⟩
  have hA' : (bs s).take (rdN (bs s)) ≠ nullT := by rw [Hn.out]; exact hA
  have dn : ((s.extract 0 n).toList == [110, 117, 108, 108]) = false := by
    rw [ByteArray.toList_eq]
    exact beq_eq_false_iff_ne.2 fun e => hA (Hfr.out.symm.trans e)
  by_cases h0 : s.size = 0
  · obtain rfl := is_empty s h0
    have Hv : Hid (resV (readW (bs ⟨#[]⟩)) = .tuple #[VV 0 0 ⟨#[]⟩, .int .i64 0, .int .i64 5]) := by show _ = _; exact resV_eq (t := []) (readW_bad hA' rfl (by simp [bs]) (by simp [bs]))
    clear hA hA'
    go_enter Tryz.func86, Tryz.ntmps86
    go_wp2_with fail
    refine (H1.out _).mono ?_
    rintro e w1 ⟨rfl, rfl⟩
    go_wp2_with fail
    go_returns
    exact ⟨by rw [Hv.out], by go_grown⟩
  have hne := ne_empty s (by omega)
  have h0' : 0 < s.size := by omega
  have A0 := Lib.hid (bs_at s 0 h0')
  have HNB := Lib.hid (numB_at A0.out)
  have HD := Lib.hid (fun w => isDigit_any s[0] w)
  by_cases hnum : numB (bs s) = true
  · have Hv := Lib.hid (readW_num hnum)
    have hway : ((s[0].toNat : Int) == 45) = true ∨ (((s[0].toNat : Int) == 45) = false ∧ isD s[0] = true) := by
      rw [HNB.out] at hnum
      rcases Bool.or_eq_true_iff.1 hnum with h | h
      · have := of_decide_eq_true h
        exact .inl (by rw [this]; rfl)
      · by_cases h2 : s[0].toNat = 45
        · exact .inl (by simp; omega)
        · exact .inr ⟨by simp; omega, h⟩
    have H2 := Lib.hid (fun w => readNumber_any s w hs)
    rw [← Hv.out] at H2
    obtain ⟨⟨⟨rk, rn, rt⟩, rm, re⟩, hr⟩ : ∃ r, readW (bs s) = r := ⟨_, rfl⟩
    rw [resV_eq hr] at H2 ⊢
    clear hr Hv hnum hA hA'
    generalize (⟨rt.toArray⟩ : ByteArray) = rs at H2 ⊢
    rcases hway with hw | ⟨hw, hw2⟩
    · go_enter Tryz.func86, Tryz.ntmps86
      go_wp2_with fail
      refine (H1.out _).mono ?_
      rintro e w1 ⟨rfl, rfl⟩
      go_wp2_with fail
      refine (H2.out _).mono ?_
      rintro e w1 ⟨rfl, hb1⟩
      have HB := Lib.hid ((Blk3.new w _ _ _ _).below hb1 (by simp))
      obtain ⟨c0, c1, c2, f0, f1, f2⟩ := HB.out
      have hb' := below_new hb1
      go_wp2_with fail
      try simp only [Exit.inBlock, Exit.then]
      refine bodyPost_ret (results_v3 rfl _ _ rfl HB.out.set3) rfl ?_
      exact ⟨rfl, by go_grown⟩
    · rw [hw2] at HD
      go_enter Tryz.func86, Tryz.ntmps86
      go_wp2_with fail
      refine (H1.out _).mono ?_
      rintro e w1 ⟨rfl, rfl⟩
      go_wp2_with fail
      refine (HD.out _).mono ?_
      rintro e w1 ⟨rfl, rfl⟩
      go_wp2_with fail
      refine (H2.out _).mono ?_
      rintro e w1 ⟨rfl, hb1⟩
      have HB := Lib.hid ((Blk3.new w _ _ _ _).below hb1 (by simp))
      obtain ⟨c0, c1, c2, f0, f1, f2⟩ := HB.out
      have hb' := below_new hb1
      go_wp2_with fail
      try simp only [Exit.inBlock, Exit.then]
      refine bodyPost_ret (results_v3 rfl _ _ rfl HB.out.set3) rfl ?_
      exact ⟨rfl, by go_grown⟩
  have hnum' : numB (bs s) = false := by simpa using hnum
  have d45 : ((s[0].toNat : Int) == 45) = false := by
    by_cases h2 : s[0].toNat = 45
    · exact absurd (by rw [HNB.out, UInt8.toNat_inj.1 (show s[0].toNat = (45 : UInt8).toNat from h2)]; rfl) hnum
    · simp; omega
  have hD0 : isD s[0] = false := by
    cases hd : isD s[0]
    · rfl
    · exact absurd (by rw [HNB.out, hd]; simp) hnum
  rw [hD0] at HD
  by_cases hq : s[0].toNat = 34
  · have h34 : (bs s)[0]? = some 34 := by rw [A0.out, UInt8.toNat_inj.1 (show s[0].toNat = (34 : UInt8).toNat from hq)]
    have dq : ((s[0].toNat : Int) == 34) = true := by simp; omega
    have Hv := Lib.hid (readW_txt h34)
    have H2 := Lib.hid (fun w h => readText_any s w h hs)
    rw [← Hv.out] at H2
    obtain ⟨⟨⟨rk, rn, rt⟩, rm, re⟩, hr⟩ : ∃ r, readW (bs s) = r := ⟨_, rfl⟩
    rw [resV_eq hr] at H2 ⊢
    clear hr Hv hnum hA hA' h34 hq hD0
    generalize (⟨rt.toArray⟩ : ByteArray) = rs at H2 ⊢
    go_enter Tryz.func86, Tryz.ntmps86
    go_wp2_with fail
    refine (H1.out _).mono ?_
    rintro e w1 ⟨rfl, rfl⟩
    go_wp2_with fail
    refine (HD.out _).mono ?_
    rintro e w1 ⟨rfl, rfl⟩
    go_wp2_with fail
    refine (H2.out _ (HT.out.alloc _)).mono ?_
    rintro e w1 ⟨rfl, hb1⟩
    have HB := Lib.hid ((Blk3.new w _ _ _ _).below hb1 (by simp))
    obtain ⟨c0, c1, c2, f0, f1, f2⟩ := HB.out
    have hb' := below_new hb1
    go_wp2_with fail
    try simp only [Exit.inBlock, Exit.then]
    refine bodyPost_ret (results_v3 rfl _ _ rfl HB.out.set3) rfl ?_
    exact ⟨rfl, by go_grown⟩
  have h34 : (bs s)[0]? ≠ some 34 := fun e => hq (by rw [A0.out] at e; rw [Option.some.inj e]; rfl)
  have dq : ((s[0].toNat : Int) == 34) = false := by simp; omega
  have HP := Lib.hid (fun w => hasPrefix_any s ⟨#[120, 34]⟩ w)
  have HPe : Hid ((bs ⟨#[120, 34]⟩).isPrefixOf (bs s) = decide ((bs s).take 2 = [120, 34])) := pre2 _
  rw [HPe.out] at HP
  by_cases hx2 : (bs s).take 2 = [120, 34]
  · have h2 : 2 ≤ s.size := by
      have := congrArg List.length hx2
      rw [List.length_take, bs_length] at this
      simp at this; omega
    have Hv := Lib.hid (readW_byt hx2)
    have H2 := Lib.hid (fun w => readBytes_any s w hs h2)
    rw [← Hv.out] at H2
    have hdx : decide ((bs s).take 2 = [120, 34]) = true := decide_eq_true hx2
    rw [hdx] at HP
    obtain ⟨⟨⟨rk, rn, rt⟩, rm, re⟩, hr⟩ : ∃ r, readW (bs s) = r := ⟨_, rfl⟩
    rw [resV_eq hr] at H2 ⊢
    clear hr Hv hnum hA hA' h34 hq hD0 hx2 hdx
    generalize (⟨rt.toArray⟩ : ByteArray) = rs at H2 ⊢
    go_enter Tryz.func86, Tryz.ntmps86
    go_wp2_with fail
    refine (H1.out _).mono ?_
    rintro e w1 ⟨rfl, rfl⟩
    go_wp2_with fail
    refine (HD.out _).mono ?_
    rintro e w1 ⟨rfl, rfl⟩
    go_wp2_with fail
    refine (HP.out _).mono ?_
    rintro e w1 ⟨rfl, rfl⟩
    go_wp2_with fail
    refine (H2.out _).mono ?_
    rintro e w1 ⟨rfl, hb1⟩
    have HB := Lib.hid ((Blk3.new w _ _ _ _).below hb1 (by simp))
    obtain ⟨c0, c1, c2, f0, f1, f2⟩ := HB.out
    have hb' := below_new hb1
    go_wp2_with fail
    try simp only [Exit.inBlock, Exit.then]
    refine bodyPost_ret (results_v3 rfl _ _ rfl HB.out.set3) rfl ?_
    exact ⟨rfl, by go_grown⟩
  · have Hv : Hid (resV (readW (bs s)) = .tuple #[VV 0 0 ⟨#[]⟩, .int .i64 0, .int .i64 5]) := by show _ = _; exact resV_eq (t := []) (readW_bad hA' hnum' h34 hx2)
    have hdx : decide ((bs s).take 2 = [120, 34]) = false := decide_eq_false hx2
    rw [hdx] at HP
    clear hnum hA hA' h34 hq hD0 hx2 hdx hnum'
    go_enter Tryz.func86, Tryz.ntmps86
    go_wp2_with fail
    refine (H1.out _).mono ?_
    rintro e w1 ⟨rfl, rfl⟩
    go_wp2_with fail
    refine (HD.out _).mono ?_
    rintro e w1 ⟨rfl, rfl⟩
    go_wp2_with fail
    refine (HP.out _).mono ?_
    rintro e w1 ⟨rfl, rfl⟩
    go_wp2_with fail
    go_returns
    exact ⟨by rw [Hv.out], by go_grown⟩

def parV (r : Val × Nat) : Value := .tuple #[valV r.1, .int .i64 (r.2 : Nat)]
theorem parV_eq {r : Val × Nat} {k n : Int} {t : List UInt8} {e : Nat} (h : r = ((k, n, t), e)) : parV r = .tuple #[VV k n ⟨t.toArray⟩, .int .i64 (e : Nat)] := by rw [h]; rfl
end Go.Proofs.YtebldfnocpcddaaGreatDoor

/-
  Contracts of package value's Print and of the document's own.
-/
namespace Go.Proofs.YtebldfnocpcddaaGreatDoor
open Go.RowKit

theorem bcell5 {W w1 : World} (hb : Below W.heap.size W w1) : (∀ b o, b < W.heap.size → w1.cell? ⟨b, o, none⟩ = W.cell? ⟨b, o, none⟩) :=
  fun b o h => hb.cell (p := ⟨b, o, none⟩) h

set_option maxRecDepth 100000 in
set_option maxHeartbeats 800000 in
theorem vprint_no (k n : Int) (s : ByteArray) (w : World) (ht : UTab w) (hr : rightV k n (bs s) = false) : Calls Tryz.prog 72 #[VV k n s] w fun e w' => e = .returned (.tuple #[.string ⟨#[]⟩, .int .i64 2]) ∧ Below w.heap.size w w' := by
  have HT := Lib.hid ht; clear ht
  have H1 := Lib.hid (fun w h => vright_any k n s w h)
  rw [hr] at H1
  clear hr
  go_enter Tryz.func72, Tryz.ntmps72
  go_wp2_with fail
  refine (H1.out _ (HT.out.alloc _)).mono ?_
  rintro e w1 ⟨rfl, hb1⟩
  have hb' := below_new hb1
  go_wp2_with fail
  go_ret2
  exact ⟨rfl, hb'⟩

set_option maxRecDepth 100000 in
set_option maxHeartbeats 1600000 in
theorem vprint_yes (k n : Int) (s : ByteArray) (w : World) (ht : UTab w) (h1 : -9223372036854775808 ≤ n) (h2 : n < 9223372036854775808) (hs : s.size ≤ 1000000) (hr : rightV k n (bs s) = true) :
    Calls Tryz.prog 72 #[VV k n s] w fun e w' => e = .returned (.tuple #[.string ⟨(prW k n (bs s)).toArray⟩, .int .i64 0]) ∧ Below w.heap.size w w' := by
  have HT := Lib.hid ht; clear ht
  have H1 := Lib.hid (fun w h => vright_any k n s w h)
  rw [hr] at H1
  have HD := Lib.hid (fun w => digits_any n w h1 h2)
  have HQ := Lib.hid (fun w => quote_any s w hs)
  have HP := Lib.hid (fun w => printBytes_any s w hs)
  rcases rightV_cases k n (bs s) with ⟨rfl, hv⟩ | ⟨rfl, hv⟩ | ⟨rfl, hv⟩ | ⟨rfl, hv⟩ | ⟨rfl, hv⟩ | ⟨_, _, _, _, _, hv⟩
  · clear hv hr
    go_enter Tryz.func72, Tryz.ntmps72
    go_wp2_with fail
    refine (H1.out _ (HT.out.alloc _)).mono ?_
    rintro e w1 ⟨rfl, hb1⟩
    have HB := Lib.hid ((Blk3.new w _ _ _ _).below hb1 (by simp))
    obtain ⟨c0, c1, c2, f0, f1, f2⟩ := HB.out
    have hb' := below_new hb1
    go_wp2_with fail
    go_ret2
    exact ⟨rfl, hb'⟩
  · clear hv hr
    have Hp : Hid (prW 1 n (bs s) = dz n) := rfl
    go_enter Tryz.func72, Tryz.ntmps72
    go_wp2_with fail
    refine (H1.out _ (HT.out.alloc _)).mono ?_
    rintro e w1 ⟨rfl, hb1⟩
    have HB := Lib.hid ((Blk3.new w _ _ _ _).below hb1 (by simp))
    obtain ⟨c0, c1, c2, f0, f1, f2⟩ := HB.out
    have hlt := new_lt hb1
    have hb' := below_new hb1
    clear hb1
    go_wp2_with fail
    refine (HD.out _).mono ?_
    rintro e w2 ⟨rfl, hb2⟩
    go_wp2_with fail
    go_ret2
    exact ⟨by rw [Hp.out]; rfl, hb'.trans (hb2.mono (Nat.le_of_lt hlt))⟩
  · clear hv hr
    have Hp : Hid (⟨(dz n).toArray⟩ ++ ⟨#[108]⟩ = (⟨(prW 2 n (bs s)).toArray⟩ : ByteArray)) := by
      show _ = _
      refine bs_eq ?_
      rw [bs_append, bs_mk (prW 2 n (bs s)), bs_mk (dz n)]; rfl
    have hX : (⟨(dz n).toArray⟩ : ByteArray).size ≤ 20 := by rw [ba_size]; exact dz_len _ h1 h2
    generalize (⟨(dz n).toArray⟩ : ByteArray) = X at HD Hp hX
    have hadd := fun w' => run_string_add_sum (P := Tryz.prog) (w := w') X ⟨#[108]⟩ (by show X.size + 1 ≤ _; omega)
    have hcv := fun w' b => run_string_one w' b 1 108 108 rfl
    go_enter Tryz.func72, Tryz.ntmps72
    go_wp2_with fail
    refine (H1.out _ (HT.out.alloc _)).mono ?_
    rintro e w1 ⟨rfl, hb1⟩
    have HB := Lib.hid ((Blk3.new w _ _ _ _).below hb1 (by simp))
    obtain ⟨c0, c1, c2, f0, f1, f2⟩ := HB.out
    have hlt := new_lt hb1
    have hb' := below_new hb1
    clear hb1
    go_wp2_with fail
    go_region_with (go_at_call 93; refine (HD.out _).mono ?_; rintro e w2 ⟨rfl, hb2⟩; have hbc := bcell5 hb2; have hbb : Below w.heap.size w w2 := Below.trans (by go_grown) (hb2.mono (by simp; omega)))
    all_goals
      go_wp2
      go_ret2
      exact ⟨by rw [← Hp.out]; rfl, by have := hbb.size; go_grown⟩
  · clear hv hr
    have Hp : Hid (prW 3 n (bs s) = qt (bs s)) := rfl
    go_enter Tryz.func72, Tryz.ntmps72
    go_wp2_with fail
    refine (H1.out _ (HT.out.alloc _)).mono ?_
    rintro e w1 ⟨rfl, hb1⟩
    have HB := Lib.hid ((Blk3.new w _ _ _ _).below hb1 (by simp))
    obtain ⟨c0, c1, c2, f0, f1, f2⟩ := HB.out
    have hlt := new_lt hb1
    have hb' := below_new hb1
    clear hb1
    go_wp2_with fail
    refine (HQ.out _).mono ?_
    rintro e w2 ⟨rfl, hb2⟩
    go_wp2_with fail
    go_ret2
    exact ⟨by rw [Hp.out]; rfl, hb'.trans (hb2.mono (Nat.le_of_lt hlt))⟩
  · clear hv hr
    have Hp : Hid (prW 4 n (bs s) = 120 :: 34 :: (hxs (bs s) ++ [34])) := rfl
    go_enter Tryz.func72, Tryz.ntmps72
    go_wp2_with fail
    refine (H1.out _ (HT.out.alloc _)).mono ?_
    rintro e w1 ⟨rfl, hb1⟩
    have HB := Lib.hid ((Blk3.new w _ _ _ _).below hb1 (by simp))
    obtain ⟨c0, c1, c2, f0, f1, f2⟩ := HB.out
    have hlt := new_lt hb1
    have hb' := below_new hb1
    clear hb1
    go_wp2_with fail
    refine (HP.out _).mono ?_
    rintro e w2 ⟨rfl, hb2⟩
    go_wp2_with fail
    go_ret2
    exact ⟨by rw [Hp.out]; rfl, hb'.trans (hb2.mono (Nat.le_of_lt hlt))⟩
  · rw [hr] at hv; cases hv

set_option maxRecDepth 100000 in
set_option maxHeartbeats 1600000 in
theorem vrprint_any (k n : Int) (s : ByteArray) (w : World) (h1 : -9223372036854775808 ≤ n) (h2 : n < 9223372036854775808) (hs : s.size ≤ 1000000) :
    Calls Tryz.prog 29 #[VV k n s] w fun e w' => e = .returned (.string ⟨(prW k n (bs s)).toArray⟩) ∧ Below w.heap.size w w' := by
  have HD := Lib.hid (fun w => rdigits_any n w h1 h2)
  have HQ := Lib.hid (fun w => rquote_any s w hs)
  have HP := Lib.hid (fun w => rhex_any s w hs)
  by_cases hk1 : k = 1
  · subst hk1
    have Hp : Hid (prW 1 n (bs s) = dz n) := rfl
    go_enter Tryz.func29, Tryz.ntmps29
    go_wp2_with fail
    refine (HD.out _).mono ?_
    rintro e w2 ⟨rfl, rfl⟩
    go_wp2_with fail
    go_ret
    exact ⟨by rw [Hp.out]; rfl, by go_grown⟩
  by_cases hk2 : k = 2
  · subst hk2
    have Hp : Hid (⟨(dz n).toArray⟩ ++ ⟨#[108]⟩ = (⟨(prW 2 n (bs s)).toArray⟩ : ByteArray)) := by
      show _ = _
      refine bs_eq ?_
      rw [bs_append, bs_mk (prW 2 n (bs s)), bs_mk (dz n)]; rfl
    have hX : (⟨(dz n).toArray⟩ : ByteArray).size ≤ 20 := by rw [ba_size]; exact dz_len _ h1 h2
    generalize (⟨(dz n).toArray⟩ : ByteArray) = X at HD Hp hX
    have hadd := fun w' => run_string_add_sum (P := Tryz.prog) (w := w') X ⟨#[108]⟩ (by show X.size + 1 ≤ _; omega)
    go_enter Tryz.func29, Tryz.ntmps29
    go_wp2_with fail
    refine (HD.out _).mono ?_
    rintro e w2 ⟨rfl, rfl⟩
    go_wp2_with fail
    go_ret
    exact ⟨by rw [← Hp.out]; rfl, by go_grown⟩
  by_cases hk3 : k = 3
  · subst hk3
    have Hp : Hid (prW 3 n (bs s) = qt (bs s)) := rfl
    go_enter Tryz.func29, Tryz.ntmps29
    go_wp2_with fail
    refine (HQ.out _).mono ?_
    rintro e w2 ⟨rfl, hb2⟩
    have hb' := below_new hb2
    go_wp2_with fail
    go_ret
    exact ⟨by rw [Hp.out]; rfl, hb'⟩
  by_cases hk4 : k = 4
  · subst hk4
    have Hp : Hid (⟨#[120, 34]⟩ ++ ⟨(hxs (bs s)).toArray⟩ ++ ⟨#[34]⟩ = (⟨(prW 4 n (bs s)).toArray⟩ : ByteArray)) := by
      show _ = _
      refine bs_eq ?_
      rw [bs_append, bs_append, bs_mk (prW 4 n (bs s)), bs_mk (hxs (bs s))]; rfl
    have hX : (⟨(hxs (bs s)).toArray⟩ : ByteArray).size ≤ 2000000 := by rw [ba_size, hxs_len, bs_length]; omega
    generalize (⟨(hxs (bs s)).toArray⟩ : ByteArray) = X at HP Hp hX
    have hsz : (⟨#[120, 34]⟩ ++ X : ByteArray).size = 2 + X.size := ByteArray.size_append
    have hadd := fun w' => run_string_add_sum (P := Tryz.prog) (w := w') ⟨#[120, 34]⟩ X (by show 2 + X.size ≤ _; omega)
    have hadd2 := fun w' => run_string_add_sum (P := Tryz.prog) (w := w') (⟨#[120, 34]⟩ ++ X) ⟨#[34]⟩ (by rw [hsz]; show 2 + X.size + 1 ≤ _; omega)
    go_enter Tryz.func29, Tryz.ntmps29
    go_wp2_with fail
    refine (HP.out _).mono ?_
    rintro e w2 ⟨rfl, hd2⟩
    have hb' := below_new (hd2.below _)
    go_wp2_with fail
    go_ret
    exact ⟨by rw [← Hp.out]; rfl, hb'⟩
  have Hp : Hid (prW k n (bs s) = nullT) := by show _ = _; unfold prW; rw [if_neg hk1, if_neg hk2, if_neg hk3, if_neg hk4]
  have d1 : (k == 1) = false := by simpa using hk1
  have d2 : (k == 2) = false := by simpa using hk2
  have d3 : (k == 3) = false := by simpa using hk3
  have d4 : (k == 4) = false := by simpa using hk4
  clear hk1 hk2 hk3 hk4
  go_enter Tryz.func29, Tryz.ntmps29
  go_wp2_with fail
  go_ret
  exact ⟨by rw [Hp.out]; rfl, by go_grown⟩
end Go.Proofs.YtebldfnocpcddaaGreatDoor
