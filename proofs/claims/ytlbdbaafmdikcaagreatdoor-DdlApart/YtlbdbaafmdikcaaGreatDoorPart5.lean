/-
  Texts that the proof needs, one behind the other: DdlRNamesC, DdlOpen2, DdlSize, DdlFewC, DdlLawMath, DdlLivesC, SchRefTabC, SchRefCatC.
-/
import Derived.SizedLaws
import Derived.Test.YtlbdbaafmdikcaaGreatDoorPart1
import Derived.Test.YtlbdbaafmdikcaaGreatDoorPart2
import Derived.Test.YtlbdbaafmdikcaaGreatDoorPart3
import Derived.Test.YtlbdbaafmdikcaaGreatDoorPart4

/-
  Contract of the document's own Names of layer 9.
-/
namespace Go.Proofs.YtlbdbaafmdikcaaGreatDoor
open Go.RowKit

theorem srt_one (s : ByteArray) : Srt [s] [s] := ⟨List.pairwise_singleton _ _, fun _ => Iff.rfl⟩
set_option maxRecDepth 100000 in
set_option maxHeartbeats 1600000 in
theorem rnames9_any (d : Db) (w : World) (hD : DdlAt w w.heap.size d) (hd : WfD d.p) : Calls Tryz.prog 12 #[DV d] w fun e w' => NamesEnd d.p w e w' := by
  obtain ⟨w0, hw0, hb0, hX, hs0⟩ := box_ddl w d
  have Hw0 := Lib.hid hw0; clear hw0
  have Hb0 := Lib.hid hb0
  have HX := Lib.hid hX; clear hX
  have Hs0 := Lib.hid hs0; clear hs0
  have HP := Lib.hid (rplain_any d w0 (hD.to hb0) hd.2.2.2.2.1)
  rw [← Hw0.out] at HP
  have Hs1 : Hid (∀ z ∈ [d.p.tb, d.p.to], z.size ≤ 1000000) := fun z hz => by
    have h1 := hd.1
    have h2 := hd.2.2.1
    simp at hz
    rcases hz with rfl | rfl
    · exact h1
    · exact h2
  clear hD hb0 hd
  obtain ⟨x0, x1, x2, x3, x4, x5, x6, x7, x8, x9, x10, x11⟩ := HX.out.ddl
  cases hp : plainD d.p
  · rw [hp] at HP
    have HE : Hid (NamesV d.p []) := by show NamesV _ _; unfold NamesV; rw [hp]; rfl
    clear hp
    go_enter Tryz.func12, Tryz.ntmps12
    go_wp2_with fail
    refine HP.out.mono ?_
    rintro e w1 ⟨rfl, hb1⟩
    rw [Hw0.out] at hb1
    have Hb1 := Lib.hid (bthen Hb0.out hb1); clear hb1
    go_wp2_with fail
    go_ret
    exact ⟨none, 0, [], rfl, by simp, HE.out, fun h => absurd h (by simp), Hb1.out⟩
  rw [hp] at HP
  by_cases h3 : d.p.op = 3
  · have q3 : (d.p.op == 3) = true := by rw [beq_iff_eq]; exact h3
    have HE : Hid (∀ l, Srt [d.p.tb, d.p.to] l → NamesV d.p l) := fun l hl => by unfold NamesV; rw [hp, if_pos rfl, if_pos h3]; exact hl
    clear hp h3
    go_enter Tryz.func12, Tryz.ntmps12
    go_wp2_with fail
    refine HP.out.mono ?_
    rintro e w1 ⟨rfl, hb1⟩
    rw [Hw0.out] at hb1
    have Hb1 := Lib.hid hb1
    have HX1 := Lib.hid (HX.out.below hb1 (by have := Hs0.out; omega))
    clear hb1 x0 x1 x2 x3 x4 x5 x6 x7 x8 x9 x10 x11
    obtain ⟨x0, x1, x2, x3, x4, x5, x6, x7, x8, x9, x10, x11⟩ := HX1.out.ddl
    have HSo := Lib.hid (rsorted_any (some ⟨w1.heap.size, 0, none⟩) 2 [d.p.tb, d.p.to] (w1.alloc (.cells #[.string d.p.tb, .string d.p.to] 9)) (strs_two (by simp) (by simp)) (by simp) Hs1.out)
    go_wp2_with fail
    refine HSo.out.mono ?_
    rintro e w2 ⟨A, c, l, rfl, hll, hS, hat, hb2⟩
    have HF : Hid (NamesEnd d.p w (.returned (.slice A l.length c)) w2) := ⟨A, c, l, rfl, Nat.le_trans hll (by simp), HE.out l hS, hat, bthen (bthen Hb0.out Hb1.out) (bthen (below_one _ _) hb2)⟩
    clear hll hS hat hb2
    go_wp2_with fail
    go_ret
    exact HF.out
  · have q3 : (d.p.op == 3) = false := by rw [beq_eq_false_iff_ne]; exact h3
    have HE : Hid (NamesV d.p [d.p.tb]) := by show NamesV _ _; unfold NamesV; rw [hp, if_pos rfl, if_neg h3]; exact srt_one _
    clear hp h3
    go_enter Tryz.func12, Tryz.ntmps12
    go_wp2_with fail
    refine HP.out.mono ?_
    rintro e w1 ⟨rfl, hb1⟩
    rw [Hw0.out] at hb1
    have Hb1 := Lib.hid hb1
    have HX1 := Lib.hid (HX.out.below hb1 (by have := Hs0.out; omega))
    clear hb1 x0 x1 x2 x3 x4 x5 x6 x7 x8 x9 x10 x11
    obtain ⟨x0, x1, x2, x3, x4, x5, x6, x7, x8, x9, x10, x11⟩ := HX1.out.ddl
    go_wp2_with fail
    go_ret
    exact ⟨some ⟨w1.heap.size, 0, none⟩, 1, [d.p.tb], rfl, by simp, HE.out, strs_one (by simp), bthen (bthen Hb0.out Hb1.out) (below_one _ _)⟩
end Go.Proofs.YtlbdbaafmdikcaaGreatDoor

/-
  Parameters of type []api.DDL, opened; law09's Few, FewAll.
-/
namespace Go.Proofs.YtlbdbaafmdikcaaGreatDoor
open Go.RowKit Go.WideShapes

set_option maxRecDepth 100000 in
theorem openDDLs {H : Type} {enc : TypeId × Value → H} {W : World} {a : Option Addr} {len cap : Nat} {d : DataW H} {p : List MemPlace} {sp : Nat → Bool}
    (h : DataW.Trod enc Tryz.prog W 0 sp true 38 (.slice a len cap) d p) : ∃ l : List Db, len = l.length ∧ DdlsIn W a cap l := by
  obtain ⟨fuel, hf⟩ := h
  simp only [Value.cells] at hf
  obtain ⟨a', len', cap', e, l, rfl, hl1, hlc, hl2, hl3⟩ := row_open Tryz.underlying38 q_ddl ddl_of (fun a => ⟨_, rfl⟩) hf
  cases e
  exact ⟨l, rfl, hl1, hlc, ⟨hl2, fun d hd => (hl3 d hd).2.2.2.2.2.2.2.2.2.2.2.2.1⟩, hl3⟩
/-- is a change tried? -/
def fewD (d : Dp) : Bool := decide ((d.tb.size : Int) + d.co.size + d.to.size + d.key.size + d.ds.size ≤ 600) && fewT ⟨0, ByteArray.empty, 0, 0, none, 0, d.cols⟩
end Go.Proofs.YtlbdbaafmdikcaaGreatDoor

/-
  How long the strings of a change that comes in may be: as the statement's own bound on all that is handed in has it; parameters of type api.DDL and []api.DDL, opened with it.
-/
namespace Go.Proofs.YtlbdbaafmdikcaaGreatDoor
open Go.RowKit Go.WideShapes

theorem sized_each {H : Type} {P : Program} {ts us : List TypeId} {ds gs : List (DataW H)} (h : (DataW.weightsEach P (ts ++ us) (ds ++ gs)).all (· ≤ reachBytes) = true) (j : Nat) (t : TypeId) (d : DataW H) (ht : ts[j]? = some t) (hd : ds[j]? = some d) : ∀ n ∈ d.weights P t, n ≤ reachBytes := fun n hn => by
  have h1 : (ts ++ us)[j]? = some t := by rw [List.getElem?_append_left (List.getElem?_eq_some_iff.1 ht).1]; exact ht
  have h2 : (ds ++ gs)[j]? = some d := by rw [List.getElem?_append_left (List.getElem?_eq_some_iff.1 hd).1]; exact hd
  have := List.all_eq_true.1 h n (DataW.weights_mem_each h1 h2 n hn)
  simpa using this
theorem weightsAll_mem {H : Type} {P : Program} {e : TypeId} : ∀ {l : List (DataW H)} {d : DataW H} {n : Nat}, d ∈ l → n ∈ d.weights P e → n ∈ DataW.weightsAll P e l
  | x :: r, d, n, hd, hn => by
    simp only [DataW.weightsAll, List.mem_append]
    rcases List.mem_cons.1 hd with rfl | hd
    · exact .inl hn
    · exact .inr (weightsAll_mem hd hn)
/-- the strings of a change are not longer than any machine reaches -/
def SmD (d : Dp) : Prop := d.tb.size ≤ reachBytes ∧ d.co.size ≤ reachBytes ∧ d.to.size ≤ reachBytes ∧ d.key.size ≤ reachBytes ∧ d.ds.size ≤ reachBytes
set_option maxRecDepth 100000 in
theorem val_w {H : Type} {enc : TypeId × Value → H} {W : World} {sp : Nat → Bool} {fuel : Nat} {c0 c1 : Value} {s : ByteArray} {y : DataW H × List MemPlace}
    (h : DataW.trod enc Tryz.prog W 0 sp true fuel 25 [c0, c1, .string s] = some y) : s.size ∈ y.1.weights Tryz.prog 25 := by
  obtain ⟨y0, y1, y2, n', hy, _, t0, t1, t2⟩ := Go.Deep.trod_struct3 Tryz.underlying25 h
  simp [q_int, q_int64, q_string] at t0 t1 t2
  obtain ⟨s', r2, e2, w2⟩ := DataW.trod_string Tryz.underlying9 t2
  simp at r2
  subst r2
  subst hy
  simp [DataW.weights, Tryz.underlying25, DataW.weightsEach, e2]
set_option maxRecDepth 100000 in
set_option maxHeartbeats 1000000 in
theorem ddl_w {H : Type} {enc : TypeId × Value → H} {W : World} {sp : Nat → Bool} {fuel : Nat} {d : Db} {y : DataW H × List MemPlace}
    (h : DataW.trod enc Tryz.prog W 0 sp true fuel 28 (fD d) = some y) (hw : ∀ n ∈ y.1.weights Tryz.prog 28, n ≤ reachBytes) : SmD d.p := by
  obtain ⟨xs, n', _, hy, hl, hlen, hf⟩ := DataW.trod_struct Tryz.underlying28 h
  match xs, hlen with
  | [y0, y1, y2, y3, y4, y5, y6, y7, y8], _ =>
    have t1 := hf 1 _ rfl
    have t2 := hf 2 _ rfl
    have t3 := hf 3 _ rfl
    have t4 := hf 4 _ rfl
    have t7 := hf 7 _ rfl
    simp [q_string, fD] at t1 t2 t3 t4 t7
    obtain ⟨s1, r1, e1, _⟩ := DataW.trod_string Tryz.underlying9 t1
    obtain ⟨s2, r2, e2, _⟩ := DataW.trod_string Tryz.underlying9 t2
    obtain ⟨s3, r3, e3, _⟩ := DataW.trod_string Tryz.underlying9 t3
    obtain ⟨s4, r4, e4, _⟩ := DataW.trod_string Tryz.underlying9 t4
    have e7 := val_w t7
    simp at r1 r2 r3 r4
    subst r1 r2 r3 r4
    subst hy
    have hv : ∀ n, n ∈ y1.1.weights Tryz.prog 9 ∨ n ∈ y2.1.weights Tryz.prog 9 ∨ n ∈ y3.1.weights Tryz.prog 9 ∨ n ∈ y4.1.weights Tryz.prog 9 ∨ n ∈ y7.1.weights Tryz.prog 25 → n ≤ reachBytes := fun n hn => hw n (by
      simp only [DataW.weights, Tryz.underlying28, DataW.weightsEach, List.map_cons, List.map_nil, List.mem_append]
      rcases hn with h | h | h | h | h
      · exact .inr (.inl h)
      · exact .inr (.inr (.inl h))
      · exact .inr (.inr (.inr (.inl h)))
      · exact .inr (.inr (.inr (.inr (.inl h))))
      · exact .inr (.inr (.inr (.inr (.inr (.inr (.inr (.inl h)))))))) 
    exact ⟨hv _ (.inl (by simp [e1, DataW.weights])), hv _ (.inr (.inl (by simp [e2, DataW.weights]))), hv _ (.inr (.inr (.inl (by simp [e3, DataW.weights])))), hv _ (.inr (.inr (.inr (.inl (by simp [e4, DataW.weights]))))), hv _ (.inr (.inr (.inr (.inr e7))))⟩
set_option maxRecDepth 100000 in
theorem openDDLW {H : Type} {enc : TypeId × Value → H} {W : World} {base : Nat} {v : Value} {d : DataW H} {p : List MemPlace} {sp : Nat → Bool}
    (hv : Value.okWide Tryz.prog W .any base 28 v) (h : DataW.Trod enc Tryz.prog W 0 sp true 28 v d p) (hw : ∀ n ∈ d.weights Tryz.prog 28, n ≤ reachBytes) : ∃ d : Db, v = DV d ∧ InD W d ∧ SmD d.p := by
  obtain ⟨t, rfl, h2⟩ := openDDL hv h
  obtain ⟨fuel, hf⟩ := h
  exact ⟨t, rfl, h2, ddl_w (d := t) hf hw⟩
/-- a slice of structs opened, each with its data -/
theorem row_openW {α : Type} [Inhabited α] {H : Type} {enc : TypeId × Value → H} {W : World} {sp : Nat → Bool} {m : Nat} {f : α → List Value} {Q : α → Prop} {ts e : TypeId} (hts : Tryz.prog.underlying ts = some (.slice e)) (hm : Tryz.prog.cellsOf e = m)
    (hone : ∀ fuel cs x, DataW.trod enc Tryz.prog W 0 sp true fuel e cs = some x → (∀ n ∈ x.1.weights Tryz.prog e, n ≤ reachBytes) → ∃ a, cs = f a ∧ Q a) (hf0 : ∀ a, ∃ v, (f a)[0]? = some v)
    {fuel : Nat} {v : Value} {x : DataW H × List MemPlace} (h : DataW.trod enc Tryz.prog W 0 sp true fuel ts [v] = some x) (hw : ∀ n ∈ x.1.weights Tryz.prog ts, n ≤ reachBytes) : ∃ a len cap, v = .slice a len cap ∧ ∃ l : List α, l.length = len ∧ len ≤ maxLen ∧ len ≤ cap ∧ RowAt m f W W.heap.size a l ∧ ∀ x ∈ l, Q x := by
  rcases Go.Deep.open_slice hts h with ⟨hcs, _⟩ | ⟨x, len, cap, m', n, D, Pl, hcs, hb, hl, hmx, hmm, hxe, hx⟩
  · obtain rfl : v = .slice none 0 0 := by simpa using hcs
    exact ⟨none, 0, 0, rfl, [], rfl, Nat.zero_le _, Nat.zero_le _, fun hp => absurd hp (by simp), by simp⟩
  · obtain rfl : v = .slice (some x) len cap := by simpa using hcs
    rw [hm] at hx
    have hlm : len ≤ m' := by rw [hmm]; split <;> omega
    have one : ∀ i, i < len → ∃ a : α, (∀ j v, (f a)[j]? = some v → W.cell? ((x.add (i * m)).add j) = some v) ∧ Q a := fun i hi => by
      obtain ⟨cs, h1, h2⟩ := hx i (by omega)
      obtain ⟨_, hlen, hc⟩ := World.cells?_some h1
      obtain ⟨a, rfl, hq⟩ := hone _ _ _ h2 fun n hn => hw n (by
        rw [hxe]
        simp only [DataW.weights, hts, List.mem_cons, List.mem_append]
        exact .inr (.inl (weightsAll_mem (List.mem_map.2 ⟨i, List.mem_range.2 hi, rfl⟩) hn)))
      refine ⟨a, fun j v hv => ?_, hq⟩
      rw [hc j (by have := (List.getElem?_eq_some_iff.1 hv).1; omega)]
      exact hv
    obtain ⟨g, hg⟩ := Go.Deep.choose_lt one
    refine ⟨some x, len, cap, rfl, (List.range len).map g, by simp, by omega, hl, fun hp => ?_, fun y hy => ?_⟩
    · simp at hp
      obtain ⟨v0, hv0⟩ := hf0 (g 0)
      have e0 := (hg 0 hp).1 0 v0 hv0
      obtain ⟨b, off, spt⟩ := x
      obtain rfl : spt = none := by simpa [Addr.add] using World.cell?_spot e0
      have hlt := World.block_lt_of_cell? W _ e0
      rw [Addr.add_lit, Addr.add_lit] at hlt
      refine ⟨b, off, rfl, hlt, fun j t hj i v hv => ?_⟩
      have hjl : j < len := by
        have := (List.getElem?_eq_some_iff.1 hj).1
        simpa using this
      have ht : g j = t := by simpa [hjl] using hj
      subst ht
      have := (hg j hjl).1 i v hv
      simp only [Addr.add_lit] at this
      exact this
    · simp at hy
      obtain ⟨i, hi, rfl⟩ := hy
      exact (hg i hi).2
set_option maxRecDepth 100000 in
theorem openDDLsW {H : Type} {enc : TypeId × Value → H} {W : World} {a : Option Addr} {len cap : Nat} {d : DataW H} {p : List MemPlace} {sp : Nat → Bool}
    (h : DataW.Trod enc Tryz.prog W 0 sp true 38 (.slice a len cap) d p) (hw : ∀ n ∈ d.weights Tryz.prog 38, n ≤ reachBytes) : ∃ l : List Db, len = l.length ∧ DdlsIn W a cap l ∧ ∀ d ∈ l, SmD d.p := by
  obtain ⟨fuel, hf⟩ := h
  simp only [Value.cells] at hf
  obtain ⟨a', len', cap', e, l, rfl, hl1, hlc, hl2, hl3⟩ := row_openW (Q := fun d => InD W d ∧ SmD d.p) Tryz.underlying38 q_ddl (fun fuel cs x hx hn => by
    obtain ⟨t, rfl, h2⟩ := ddl_of _ _ _ hx
    exact ⟨t, rfl, h2, ddl_w hx hn⟩) (fun a => ⟨_, rfl⟩) hf hw
  cases e
  exact ⟨l, rfl, ⟨hl1, hlc, ⟨hl2, fun d hd => (hl3 d hd).1.2.2.2.2.2.2.2.2.2.2.2.2.1⟩, fun d hd => (hl3 d hd).1⟩, fun d hd => (hl3 d hd).2⟩
end Go.Proofs.YtlbdbaafmdikcaaGreatDoor

/-
  Contracts of law09's Few, FewAll and column.
-/
namespace Go.Proofs.YtlbdbaafmdikcaaGreatDoor
open Go.RowKit

theorem fewD_iff {d : Dp} : fewD d = true ↔ d.tb.size + d.co.size + d.to.size + d.key.size + d.ds.size ≤ 600 ∧ fewT ⟨0, ByteArray.empty, 0, 0, none, 0, d.cols⟩ = true := by
  unfold fewD
  rw [Bool.and_eq_true, decide_eq_true_iff]
  constructor
  · rintro ⟨h1, h2⟩; exact ⟨by omega, h2⟩
  · rintro ⟨h1, h2⟩; exact ⟨by omega, h2⟩
/-- a change that is tried is of the sizes that the contracts ask for -/
theorem WfD_of {w : World} {d : Db} (h : fewD d.p = true) (hi : InD w d) : WfD d.p := by
  obtain ⟨h1, h2⟩ := fewD_iff.1 h
  unfold fewT at h2
  simp only [Bool.and_eq_true, decide_eq_true_eq, List.all_eq_true, shortB_iff] at h2
  obtain ⟨_, _, _, _, _, _, _, _, hdn, _, _, _, _, hc⟩ := hi
  refine ⟨by omega, by omega, by omega, by omega, by omega, wf64 hdn, fun c hcm => ?_⟩
  have := h2.2.2 c hcm
  have hr := wf64 (hc c hcm).2.2.2.2.2.1
  exact ⟨by omega, hr.1, hr.2⟩
theorem fewT_A (c : List Cb) (A : Option Addr) (cap : Nat) : fewT ⟨0, ByteArray.empty, 0, 0, A, cap, c⟩ = fewT ⟨0, ByteArray.empty, 0, 0, none, 0, c⟩ := rfl
set_option maxRecDepth 100000 in
set_option maxHeartbeats 1000000 in
theorem few9_any (d : Db) (w : World) (hD : DdlAt w w.heap.size d) (hl : d.p.cols.length ≤ maxLen) (hs : SmD d.p) :
    Calls Tryz.prog 7 #[DV d] w fun e w' => e = .returned (.bool (fewD d.p)) ∧ Below w.heap.size w w' := by
  obtain ⟨w0, hw0, hb0, hX, hs0⟩ := box_ddl w d
  have Hw0 := Lib.hid hw0; clear hw0
  have Hb0 := Lib.hid hb0
  have HD := Lib.hid (hD.to hb0); clear hD hb0
  have HX := Lib.hid hX; clear hX
  have HF := Lib.hid (few8_any ⟨0, ByteArray.empty, 0, 0, d.A, d.cap, d.p.cols⟩ w0 HD.out hl)
  rw [fewT_A, ← Hw0.out] at HF
  obtain ⟨s1, s2, s3, s4, s5⟩ := hs
  have r1 : (d.p.tb.size : Int) ≤ 140737488351232 := by unfold reachBytes at s1; omega
  have r2 : (d.p.co.size : Int) ≤ 140737488351232 := by unfold reachBytes at s2; omega
  have r3 : (d.p.to.size : Int) ≤ 140737488351232 := by unfold reachBytes at s3; omega
  have r4 : (d.p.key.size : Int) ≤ 140737488351232 := by unfold reachBytes at s4; omega
  have r5 : (d.p.ds.size : Int) ≤ 140737488351232 := by unfold reachBytes at s5; omega
  clear s1 s2 s3 s4 s5
  have Hv : Hid (fewD d.p = (decide ((d.p.tb.size : Int) + d.p.co.size + d.p.to.size + d.p.key.size + d.p.ds.size ≤ 600) && fewT ⟨0, ByteArray.empty, 0, 0, none, 0, d.p.cols⟩)) := rfl
  generalize fewT ⟨0, ByteArray.empty, 0, 0, none, 0, d.p.cols⟩ = f at HF Hv
  cases h1 : decide ((d.p.tb.size : Int) + d.p.co.size + d.p.to.size + d.p.key.size + d.p.ds.size ≤ 600)
  · rw [h1] at Hv
    have h1' := of_decide_eq_false h1
    go_enter Tryz.func7, Tryz.ntmps7
    go_wp2_with fail
    rw [Hw0.out]
    go_ret
    exact ⟨by rw [Hv.out]; rfl, Hb0.out⟩
  · rw [h1] at Hv
    have h1' := of_decide_eq_true h1
    go_enter Tryz.func7, Tryz.ntmps7
    go_wp2_with fail
    refine HF.out.mono ?_
    rintro e w1 ⟨rfl, hb1⟩
    rw [Hw0.out] at hb1
    have Hb1 := Lib.hid (bthen Hb0.out hb1); clear hb1
    go_wp2_with fail
    go_ret
    exact ⟨by rw [Hv.out]; rfl, Hb1.out⟩

theorem DdlsAt.get {w : World} {B : Nat} {A : Option Addr} {l : List Db} (h : DdlsAt w B A l) (k : Nat) (d : Db) (hk : l[k]? = some d) : ∃ b off, A = some ⟨b, off, none⟩ ∧ b < B ∧
    w.cell? ⟨b, off + k * 12, none⟩ = some (.int .i64 d.p.op) ∧ w.cell? ⟨b, off + k * 12 + 1, none⟩ = some (.string d.p.tb) ∧ w.cell? ⟨b, off + k * 12 + 2, none⟩ = some (.string d.p.co) ∧ w.cell? ⟨b, off + k * 12 + 3, none⟩ = some (.string d.p.to) ∧
    w.cell? ⟨b, off + k * 12 + 4, none⟩ = some (.string d.p.key) ∧ w.cell? ⟨b, off + k * 12 + 5, none⟩ = some (.int .i64 d.p.tk) ∧ w.cell? ⟨b, off + k * 12 + 6, none⟩ = some (.int .i64 d.p.tm) ∧ w.cell? ⟨b, off + k * 12 + 7, none⟩ = some (.bool d.p.nl) ∧
    w.cell? ⟨b, off + k * 12 + 8, none⟩ = some (.int .i64 d.p.dk) ∧ w.cell? ⟨b, off + k * 12 + 9, none⟩ = some (.int .i64 d.p.dn) ∧ w.cell? ⟨b, off + k * 12 + 10, none⟩ = some (.string d.p.ds) ∧ w.cell? ⟨b, off + k * 12 + 11, none⟩ = some (.slice d.A d.p.cols.length d.cap) := by
  obtain ⟨b, off, rfl, h1, h2⟩ := h.1 (by have := (List.getElem?_eq_some_iff.1 hk).1; omega)
  have := h2 k d hk
  exact ⟨b, off, rfl, h1, this 0 _ rfl, this 1 _ rfl, this 2 _ rfl, this 3 _ rfl, this 4 _ rfl, this 5 _ rfl, this 6 _ rfl, this 7 _ rfl, this 8 _ rfl, this 9 _ rfl, this 10 _ rfl, this 11 _ rfl⟩
/-- are changes tried? -/
def fewL (l : List Db) : Bool := decide ((l.length : Int) ≤ 20) && l.all fun d => fewD d.p
set_option maxRecDepth 100000 in
set_option maxHeartbeats 1600000 in
theorem fewl9_any (A : Option Addr) (cp : Nat) (l : List Db) (w : World) (hA : DdlsAt w w.heap.size A l) (hl : l.length ≤ maxLen) (hi : ∀ d ∈ l, d.p.cols.length ≤ maxLen ∧ SmD d.p) :
    Calls Tryz.prog 16 #[.slice A l.length cp] w fun e w' => e = .returned (.bool (fewL l)) ∧ Below w.heap.size w w' := by
  unfold maxLen at hl
  have HA := Lib.hid hA; clear hA
  have HI := Lib.hid hi; clear hi
  have Hv : Hid (fewL l = (decide ((l.length : Int) ≤ 20) && l.all fun d => fewD d.p)) := rfl
  have e1 : decide (20 < (l.length : Int)) = !decide ((l.length : Int) ≤ 20) := by apply bool_eq; simp
  generalize decide ((l.length : Int) ≤ 20) = b1 at Hv e1
  cases b1
  · replace e1 : decide (20 < (l.length : Int)) = true := e1
    go_enter Tryz.func16, Tryz.ntmps16
    go_wp2_with fail
    go_ret
    exact ⟨by rw [Hv.out]; rfl, Below.refl _ _⟩
  replace e1 : decide (20 < (l.length : Int)) = false := e1
  replace Hv : Hid (fewL l = l.all fun d => fewD d.p) := by show _ = _; rw [Hv.out]; simp
  go_enter Tryz.func16, Tryz.ntmps16
  go_wp2_with fail
  clear e1
  go_loopw [3] (fun i wr => ∃ k : Nat, k ≤ l.length ∧ i = .int .i64 k ∧ Hid (∀ j c, l[j]? = some c → j < k → fewD c.p = true) ∧ Hid (Below w.heap.size w wr)) (fun i _ => l.length - (intOf i).toNat)
  case atStart => exact ⟨0, by omega, rfl, fun j v _ h => absurd h (by omega), Below.refl _ _⟩
  case round =>
    obtain ⟨k, hk, rfl, hall, hb⟩ := hrel
    by_cases hlt : k < l.length
    · obtain ⟨x, hx⟩ : ∃ x, l[k]? = some x := ⟨l[k], by simp [hlt]⟩
      have Hx := Lib.hid hx
      have hi' := HI.out x (List.mem_of_getElem? hx)
      have HF := Lib.hid (few9_any x wr ((HA.out.to hb.out).2 x (List.mem_of_getElem? hx)) hi'.1 hi'.2)
      have hA' := HA.out
      obtain ⟨b, off, hAe, hbB, d0, d1, d2, d3, d4, d5, d6, d7, d8, d9, d10, d11⟩ := DdlsAt.get (l := l) ⟨RowAt.below hA'.1 hb.out, fun d hd => RowAt.below (hA'.2 d hd) hb.out⟩ k x hx
      subst hAe
      clear hx hi' hA'
      cases hp : fewD x.p
      · have Hno : Hid ((l.all fun d => fewD d.p) = false) := all_stop8 Hx.out hp
        rw [hp] at HF
        clear hp
        go_wp2_with fail
        refine HF.out.mono ?_
        rintro e w1 ⟨rfl, hb1⟩
        have Hb1 := Lib.hid (bthen hb.out hb1); clear hb1
        go_wp2_with fail
        go_ret
        exact ⟨by rw [Hv.out, Hno.out]; rfl, Hb1.out⟩
      · have Hall : Hid (∀ j c, l[j]? = some c → j < k + 1 → fewD c.p = true) := fun j y hj hk => by
          by_cases e : j = k
          · subst e
            rw [Hx.out] at hj
            cases hj
            exact hp
          · exact hall.out j y hj (by omega)
        rw [hp] at HF
        clear hp
        go_wp2_with fail
        refine HF.out.mono ?_
        rintro e w1 ⟨rfl, hb1⟩
        have Hb1 := Lib.hid (bthen hb.out hb1); clear hb1
        go_wp2_with fail
        go_roundw
        case rel => exact ⟨k + 1, by omega, by go_num, Hall.out, Hb1.out⟩
        case measure => simp [intOf]; omega
    · have Hyes : Hid ((l.all fun d => fewD d.p) = true) := all_at fun j x hj => hall.out j x hj (by have := (List.getElem?_eq_some_iff.1 hj).1; omega)
      go_wp2_with fail
      go_ret
      exact ⟨by rw [Hv.out, Hyes.out]; rfl, hb.out⟩
/-- the column of a number -/
def colN (t : Tb) (id : Int) : Option Nat := t.cols.findIdx? fun c => c.id == id
/-- its name, or none -/
def colNm (t : Tb) (id : Int) : ByteArray := match colN t id with
  | some k => match t.cols[k]? with
    | some c => c.nm
    | none => ⟨#[]⟩
  | none => ⟨#[]⟩
set_option maxRecDepth 100000 in
set_option maxHeartbeats 1600000 in
theorem column9_any (t : Tb) (s : Int) (w : World) (hA : TabAt w w.heap.size t) (hl : t.cols.length ≤ 1000000) :
    Calls Tryz.prog 19 #[TV t, .int .i64 s] w fun e w' => e = .returned (.tuple #[.string (colNm t s), .bool (colN t s).isSome]) ∧ Below w.heap.size w w' := by
  obtain ⟨w0, hw0, hb0, hB, hs0⟩ := box_tab w t
  have Hw0 := Lib.hid hw0; clear hw0
  have Hb0 := Lib.hid hb0
  have HA := Lib.hid (RowAt.to hA hb0); clear hA hb0
  obtain ⟨c0, c1, c2, c3, c4⟩ := hB.tab
  clear hB
  have Hs0 := Lib.hid hs0; clear hs0
  go_enter Tryz.func19, Tryz.ntmps19
  go_wp2_with fail
  rw [Hw0.out]
  go_loop [6] (fun i => ∃ k : Nat, k ≤ t.cols.length ∧ i = .int .i64 k ∧ Hid (∀ j x, t.cols[j]? = some x → j < k → (x.id == s) = false)) (fun i => t.cols.length - (intOf i).toNat)
  case atStart => exact ⟨0, by omega, rfl, fun j v _ h => absurd h (by omega)⟩
  case round =>
    obtain ⟨k, hk, rfl, hall⟩ := hrel
    by_cases hlt : k < t.cols.length
    · obtain ⟨x, hx⟩ : ∃ x, t.cols[k]? = some x := ⟨t.cols[k], by simp [hlt]⟩
      have Hx := Lib.hid hx
      obtain ⟨b, off, hAe, hbB, d0, d1, d2, d3, d4, d5, d6, d7⟩ := ColsAt.get HA.out k x hx
      clear hx
      have Hc4 := Lib.hid c4
      rw [hAe] at c4
      cases hp : (x.id == s)
      · have Hall : Hid (∀ j x, t.cols[j]? = some x → j < k + 1 → (x.id == s) = false) := fun j y hj hk => by
          by_cases e : j = k
          · subst e
            rw [Hx.out] at hj
            cases hj
            exact hp
          · exact hall.out j y hj (by omega)
        clear hAe
        go_wp2_with fail
        go_round
        case rel => exact ⟨k + 1, by omega, by go_num, Hall.out⟩
        case measure => simp [intOf]; omega
      · have Hfi : Hid (colN t s = some k) := find_at hall.out Hx.out hp
        have Hnm : Hid (colNm t s = x.nm) := by show _ = _; unfold colNm; rw [Hfi.out]; simp only []; rw [Hx.out]
        clear hAe
        go_wp2_with fail
        go_ret2
        exact ⟨by rw [Hfi.out, Hnm.out]; rfl, Hb0.out⟩
    · have Hfi : Hid (colN t s = none) := find_no fun j x hj => hall.out j x hj (by have := (List.getElem?_eq_some_iff.1 hj).1; omega)
      have Hnm : Hid (colNm t s = ⟨#[]⟩) := by show _ = _; unfold colNm; rw [Hfi.out]
      go_wp2_with fail
      go_ret2
      exact ⟨by rw [Hfi.out, Hnm.out]; rfl, Hb0.out⟩
end Go.Proofs.YtlbdbaafmdikcaaGreatDoor

/-
  Plain facts for the laws of layer 9: when two catalogs are alike, sizes of a changed catalog, numbers of columns that are kept.
-/
namespace Go.Proofs.YtlbdbaafmdikcaaGreatDoor
open Go.RowKit

/-! ### Catalogs -/
theorem sameT_p {a b : Tb} (h : a.p = b.p) : sameT a b = true := by
  unfold Tb.p at h
  simp only [Tp.mk.injEq] at h
  obtain ⟨h1, h2, h3, h4, h5⟩ := h
  unfold sameT
  rw [h1, h2, h3, h4, h5, pair_self eqC_self, eqS_self]; simp
theorem pair_p {a b : List Tb} (h : a.map Tb.p = b.map Tb.p) : tf (Pair sameT a b) = true := by
  refine tf_yes ⟨by simpa using congrArg List.length h, fun j x y hx hy => sameT_p ?_⟩
  have h1 : (a.map Tb.p)[j]? = some x.p := by rw [List.getElem?_map, hx]; rfl
  have h2 : (b.map Tb.p)[j]? = some y.p := by rw [List.getElem?_map, hy]; rfl
  rw [h, h2] at h1
  exact (Option.some.inj h1).symm
/-- the sizes of a right catalog -/
theorem wf_right {l : List Tb} (hr : RightL (l.map Tb.p)) (hc : ∀ t ∈ l, t.cols.length ≤ t.cap) (h64 : ∀ t ∈ l, W64 t.cols) : l.length ≤ 6 ∧ ∀ t ∈ l, WfT t := by
  obtain ⟨h1, h2, _⟩ := hr
  refine ⟨by simpa using h1, fun t ht => ?_⟩
  obtain ⟨_, t2, _, _, t5, t6, _⟩ := h2 t.p (List.mem_map.2 ⟨t, ht, rfl⟩)
  have hn := (right_len t2).2
  rw [bs_length] at hn
  have hn' : t.nm.size ≤ 16 := hn
  have t5' : t.cols.length ≤ 10 := t5
  refine ⟨by omega, by omega, hc t ht, fun c hcm => ?_⟩
  have h3 := (rightC_iff c).1 (t6 c hcm).1
  have h4 := (right_len h3.2.2.1).2
  rw [bs_length] at h4
  exact ⟨by omega, h64 t ht c hcm⟩
theorem w64_of {l : List Tb} {m : List Tp} (h : l.map Tb.p = m) (hm : ∀ t ∈ m, W64 t.cols) : ∀ t ∈ l, W64 t.cols := fun t ht => hm t.p (by rw [← h]; exact List.mem_map.2 ⟨t, ht, rfl⟩)
theorem w64_to {l : List Tb} (h : ∀ t ∈ l, WfT t) : ∀ t ∈ l.map Tb.p, W64 t.cols := fun t ht => by
  obtain ⟨x, hx, rfl⟩ := List.mem_map.1 ht
  exact fun c hc => ((h x hx).2.2.2 c hc).2
/-- the sizes of what a change makes -/
theorem wf_apply {L : List Tp} {d : Dp} {id : Int} {w : World} {A : Option Addr} {cap : Nat} {l : List Tb} (h64 : ∀ t ∈ L, W64 t.cols) (hd : WfD d) (hc : CatAt w A cap l) (h : l.map Tb.p = applyO L d id) : l.length ≤ 6 ∧ (∀ t ∈ l, WfT t) ∧ l.length ≤ cap := by
  by_cases e : applyE L d id = 0
  · unfold applyO at h
    rw [if_pos e] at h
    have hw := apply_w64 h64 hd.2.2.2.2.2.1 (fun c hcm => (hd.2.2.2.2.2.2 c hcm).2) e
    have hr := apply_right h64 e
    rw [← h] at hr
    have := wf_right hr hc.2.2 (w64_of h hw)
    exact ⟨this.1, this.2, hc.2.1⟩
  · unfold applyO at h
    rw [if_neg e] at h
    obtain rfl : l = [] := by simpa using h
    exact ⟨by simp, by simp, by simp⟩
theorem right_of_apply {L : List Tp} {d : Dp} {id : Int} {l : List Tb} (h64 : ∀ t ∈ L, W64 t.cols) (h : l.map Tb.p = applyO L d id) (e : applyE L d id = 0) : rightCat l = true := by
  rw [rightL_iff, h]
  unfold applyO
  rw [if_pos e]
  exact apply_right h64 e
theorem w64_apply {L : List Tp} {d : Dp} {id : Int} (h64 : ∀ t ∈ L, W64 t.cols) (hd : WfD d) (e : applyE L d id = 0) : ∀ t ∈ applyR L d id, W64 t.cols := apply_w64 h64 hd.2.2.2.2.2.1 (fun c hcm => (hd.2.2.2.2.2.2 c hcm).2) e
/-! ### Columns by their numbers -/
theorem colN_some {t : Tb} {id : Int} {k : Nat} (h : colN t id = some k) : ∃ c, t.cols[k]? = some c ∧ c.id = id ∧ colNm t id = c.nm := by
  obtain ⟨y, h1, h2, _⟩ := find_some h
  refine ⟨y, h1, by simpa using h2, ?_⟩
  unfold colNm
  rw [h]
  simp only []
  rw [h1]
theorem colN_mem {t : Tb} {id : Int} {c : Cb} (hc : c ∈ t.cols) (h : c.id = id) : (colN t id).isSome = true := by
  unfold colN
  cases hf : t.cols.findIdx? fun c => c.id == id with
  | some k => rfl
  | none =>
    rw [List.findIdx?_eq_none_iff] at hf
    have := hf c hc
    rw [h] at this; simp at this
/-- of a right table the column of a number is the one -/
theorem colN_one {t : Tb} {id : Int} {c : Cb} (hr : RightT t.p) (hc : c ∈ t.cols) (h : c.id = id) : colNm t id = c.nm := by
  have hs := colN_mem hc h
  cases hk : colN t id with
  | none => rw [hk] at hs; cases hs
  | some k =>
    obtain ⟨y, h1, h2, h3⟩ := colN_some hk
    rw [h3]
    have hp : t.cols.Pairwise (Apart Cb.id Cb.nm) := hr.2.2.2.2.2.2.1
    obtain ⟨i, hi⟩ := List.mem_iff_getElem?.1 hc
    obtain ⟨l1, e1⟩ := List.getElem?_eq_some_iff.1 hi
    obtain ⟨l2, e2⟩ := List.getElem?_eq_some_iff.1 h1
    rw [List.pairwise_iff_getElem] at hp
    rcases Nat.lt_trichotomy i k with q | q | q
    · have := (hp i k l1 l2 q).1
      rw [e1, e2] at this; omega
    · subst q
      rw [e1] at e2; rw [e2]
    · have := (hp k i l2 l1 q).1
      rw [e1, e2] at this; omega
/-- what the law asks of a number of a column -/
theorem keeps_col {L : List Tp} {d : Dp} {i : Int} {t u : Tb} {id : Int} (h : applyE L d i = 0) (hL : RightL L) (ht : t.p ∈ L) (hu : u.p ∈ applyR L d i) (hid : u.id = t.id) (hlt : id < t.nx) (his : (colN u id).isSome = true) :
    (colN t id).isSome = true ∧ (d.op ≠ 6 → colNm t id = colNm u id) := by
  obtain ⟨_, _, h3⟩ := apply_keeps h ht hu hid
  cases hk : colN u id with
  | none => rw [hk] at his; cases his
  | some k =>
    obtain ⟨c, h4, h5, h6⟩ := colN_some hk
    obtain ⟨c', h7, h8, h9⟩ := h3 c (List.mem_of_getElem? h4) (by show c.id < t.nx; omega)
    refine ⟨colN_mem h7 (by omega), fun ho => ?_⟩
    rw [h6, colN_one (hL.2.1 t.p ht) h7 (by omega), h9 ho]
theorem keeps_tab {L : List Tp} {d : Dp} {i : Int} {t u : Tb} (h : applyE L d i = 0) (ht : t.p ∈ L) (hu : u.p ∈ applyR L d i) (hid : u.id = t.id) : t.nx ≤ u.nx ∧ u.key = t.key := by
  obtain ⟨h1, h2, _⟩ := apply_keeps h ht hu hid
  exact ⟨h1, h2⟩
end Go.Proofs.YtlbdbaafmdikcaaGreatDoor

/-
  The page's example of layer 9.
-/
namespace Go.Proofs.YtlbdbaafmdikcaaGreatDoor
open Go.RowKit

/-- a column a (int); the change that makes t with it -/
def exC : Cb := ⟨0, ⟨#[97]⟩, 1, 0, false, 0, 0, ⟨#[]⟩⟩
def exD : Dp := ⟨1, ⟨#[116]⟩, ⟨#[]⟩, ⟨#[]⟩, ⟨#[97]⟩, 0, 0, false, 0, 0, ⟨#[]⟩, [exC]⟩
set_option maxRecDepth 100000 in
theorem create9_any (w : World) : Calls Tryz.prog 22 #[] w fun e w' => ∃ b, e = .returned (DV ⟨exD, some ⟨b, 0, none⟩, 1⟩) ∧ DdlAt w' w'.heap.size ⟨exD, some ⟨b, 0, none⟩, 1⟩ ∧ Below w.heap.size w w' := by
  go_enter Tryz.func22, Tryz.ntmps22
  go_wp2_with fail
  go_returns
  refine ⟨_, rfl, fun _ => ⟨_, 0, rfl, ?_, fun j x hj i v hv => ?_⟩, by go_grown⟩
  · simp
  · cases j with
    | succ j => simp [exD] at hj
    | zero =>
      simp [exD] at hj; subst hj
      simp only [fC, exC] at hv
      match i, hv with
      | 0, hv => simp at hv; subst hv; simp
      | 1, hv => simp at hv; subst hv; simp
      | 2, hv => simp at hv; subst hv; simp
      | 3, hv => simp at hv; subst hv; simp
      | 4, hv => simp at hv; subst hv; simp
      | 5, hv => simp at hv; subst hv; simp
      | 6, hv => simp at hv; subst hv; simp
      | 7, hv => simp at hv; subst hv; simp
      | i + 8, hv => simp at hv
theorem exD_wf : WfD exD := ⟨by decide, by decide, by decide, by decide, by decide, ⟨by decide, by decide⟩, fun c hc => by
  obtain rfl : c = exC := by simpa [exD] using hc
  exact ⟨by decide, by decide, by decide⟩⟩
theorem exD_right : applyE [] exD 4 = 0 ∧ applyO [] exD 4 = [⟨4, ⟨#[116]⟩, 0, 1, [exC]⟩] := by
  have hR : RightL [] := ⟨by simp, by simp, List.Pairwise.nil⟩
  have hp : plainD exD = true := by decide +kernel
  have hc : createE [] exD 4 = 0 := by decide +kernel
  have he : applyE [] exD 4 = 0 := by
    rw [applyE_chg hR hp (by decide)]
    unfold chgE
    rw [if_pos (show exD.op = 1 from rfl)]; exact hc
  refine ⟨he, ?_⟩
  unfold applyO
  rw [if_pos he]
  unfold applyR
  rw [if_pos (show exD.op = 1 from rfl)]
  have hk : colP exD.cols exD.key = some 0 := by decide +kernel
  unfold insT madeT
  rw [hk]
  rfl
set_option maxRecDepth 100000 in
set_option maxHeartbeats 1000000 in
theorem lives9_any (w : World) (ht : UTab w) : Calls Tryz.prog 6 #[] w fun e w' => e = .returned (.bool true) ∧ Below w.heap.size w w' := by
  have HT := Lib.hid ht; clear ht
  go_enter Tryz.func6, Tryz.ntmps6
  go_wp2_with fail
  refine (create9_any _).mono ?_
  rintro e w1 ⟨b, rfl, hD, hb1⟩
  have Hb1 := Lib.hid hb1
  have HAp : Hid (Calls Tryz.prog 18 #[.agg #[.slice none 0 0], DV ⟨exD, some ⟨b, 0, none⟩, 1⟩, .int .i64 4] w1 fun e w' => ∃ A' cap' l', e = .returned (.tuple #[.agg #[.slice A' l'.length cap'], .int .i64 (applyE [] exD 4)]) ∧ CatAt w' A' cap' l' ∧
      l'.map Tb.p = applyO [] exD 4 ∧ Below w1.heap.size w1 w') :=
    apply_any none 0 [] ⟨exD, some ⟨b, 0, none⟩, 1⟩ 4 w1 (HT.out.below hb1 (Nat.le_refl _)) ⟨fun h => absurd h (by simp), by simp⟩ (by simp) (by simp) (by simp) hD
      exD_wf
  rw [exD_right.1, exD_right.2] at HAp
  clear hD hb1
  go_wp2_with fail
  refine HAp.out.mono ?_
  rintro e w2 ⟨A', cap', l', he, hcat, hl, hb2⟩
  obtain ⟨t, rfl, htp⟩ : ∃ t, l' = [t] ∧ t.p = ⟨4, ⟨#[116]⟩, 0, 1, [exC]⟩ := by
    cases l' with
    | nil => simp at hl
    | cons t r =>
      cases r with
      | nil => exact ⟨t, rfl, by simpa using hl⟩
      | cons u v => simp at hl
  subst he
  have Hb2 := Lib.hid (bthen Hb1.out hb2)
  obtain ⟨g, off, hA, hgB, d0, d1, d2, d3, d4⟩ := TabsAt.get hcat.1 0 t rfl
  subst hA
  have e0 : t.id = 4 := congrArg Tp.id htp
  have e3 : t.nx = 1 := congrArg Tp.nx htp
  have e4 : t.cols.length = 1 := by rw [show t.cols = [exC] from congrArg Tp.cols htp]; rfl
  rw [e0] at d0
  rw [e3] at d3
  rw [e4] at d4
  simp only [Nat.zero_mul, Nat.add_zero] at d0 d1 d2 d3 d4
  have k0 := fun o => keep_alloc d0 o
  have k3 := fun o => keep_alloc d3 o
  have k4 := fun o => keep_alloc d4 o
  have Hb3 := Lib.hid (fun o => bthen Hb2.out (below_one w2 o))
  clear hcat hl hb2 htp e0 e3 e4
  go_wp2_with fail
  go_ret
  exact ⟨rfl, Hb3.out _⟩
end Go.Proofs.YtlbdbaafmdikcaaGreatDoor

/-
  Contract of the document's own Table of layer 8.
-/
namespace Go.Proofs.YtlbdbaafmdikcaaGreatDoor
open Go.RowKit

theorem ok_more {l : List Cb} {k : Nat} {x : Cb} (h : ∀ j, j < k → OkAt Cb.id Cb.nm l j) (hx : l[k]? = some x) (h1 : ∀ y, 0 < k → l[k - 1]? = some y → y.id < x.id)
    (h2 : (l.findIdx? fun y => eqS y.nm x.nm) = some k) : ∀ j, j < k + 1 → OkAt Cb.id Cb.nm l j := fun j hj => by
  by_cases e : j = k
  · subst e
    intro z hz
    rw [hx] at hz; cases hz
    exact ⟨h1, (find_own hx).1 h2⟩
  · exact h j (by omega)
theorem dist_no_id {l : List Cb} {j : Nat} {x y : Cb} (hx : l[j + 1]? = some x) (hy : l[j]? = some y) (h2 : x.id ≤ y.id) : ¬ Dist Cb.id Cb.nm l := fun h => by
  have := (h (j + 1) (List.getElem?_eq_some_iff.1 hx).1 x hx).1 y (by omega) (by simpa using hy)
  omega
theorem dist_no_nm {l : List Cb} {k : Nat} {x : Cb} (hx : l[k]? = some x) (h2 : (l.findIdx? fun y => eqS y.nm x.nm) ≠ some k) : ¬ Dist Cb.id Cb.nm l := fun h =>
  h2 ((find_own hx).2 (h k (List.getElem?_eq_some_iff.1 hx).1 x hx).2)
theorem rightCols_no1 {t : Tb} {k : Nat} {c : Cb} (hc : t.cols[k]? = some c) (h : (rightC c && decide (c.id < t.nx)) = false) : rightCols t = false := by
  unfold rightCols
  have : (t.cols.all fun c => rightC c && decide (c.id < t.nx)) = false := by
    cases e : t.cols.all fun c => rightC c && decide (c.id < t.nx) with
    | false => rfl
    | true =>
      rw [List.all_eq_true] at e
      have := e c (List.mem_of_getElem? hc)
      rw [h] at this; cases this
  rw [this]; rfl
theorem rightCols_no2 {t : Tb} (h : ¬ Dist Cb.id Cb.nm t.cols) : rightCols t = false := by unfold rightCols; rw [tf_no h, Bool.and_false]
theorem rightCols_yes {t : Tb} (h1 : ∀ (j : Nat) c, t.cols[j]? = some c → (rightC c && decide (c.id < t.nx)) = true) (h : Dist Cb.id Cb.nm t.cols) : rightCols t = true := by
  unfold rightCols; rw [tf_yes h, all_at h1]; rfl
theorem idxI_eq (o : Option Nat) (k : Nat) : (idxI o == (k : Int)) = decide (o = some k) := by
  apply bool_eq
  cases o with
  | none => simp [idxI]
  | some q => simp [idxI]; omega
theorem any_take {l : List Cb} {k : Nat} {c : Cb} (hc : l[k]? = some c) (p : Cb → Bool) : (l.take (k + 1)).any p = ((l.take k).any p || p c) := by
  obtain ⟨h1, rfl⟩ := List.getElem?_eq_some_iff.1 hc
  rw [List.take_succ_eq_append_getElem h1, List.any_append]; simp

set_option maxRecDepth 100000 in
set_option maxHeartbeats 4000000 in
theorem rrtab_any (t : Tb) (w : World) (hw : WfT t) (hA : TabAt w w.heap.size t) :
    Calls Tryz.prog 30 #[TV t] w fun e w' => e = .returned (.bool (rightTab t)) ∧ Below w.heap.size w w' := by
  obtain ⟨w0, hw0, hb0, hB, hs0⟩ := box_tab w t
  have Hw0 := Lib.hid hw0; clear hw0
  have Hb0 := Lib.hid hb0
  have HA := Lib.hid (RowAt.to hA hb0); clear hA hb0
  have HB := Lib.hid hB; clear hB
  have Hs0 := Lib.hid hs0; clear hs0
  have HW := Lib.hid hw
  have HN := Lib.hid (fun w => nrright_any t.nm w hw.1)
  have hlen := hw.2.1; clear hw
  have Hv : Hid (rightTab t = (decide (0 ≤ t.id) && (rightN (bs t.nm) && (decide (t.nx ≤ 200) && (decide (1 ≤ (t.cols.length : Int)) && (decide ((t.cols.length : Int) ≤ 10) && (rightCols t && tf (keyOk t)))))))) := rfl
  have e1 : decide (t.id < 0) = !decide (0 ≤ t.id) := by apply bool_eq; simp
  have e3 : decide (200 < t.nx) = !decide (t.nx ≤ 200) := by apply bool_eq; simp
  have e4 : decide ((t.cols.length : Int) < 1) = !decide (1 ≤ (t.cols.length : Int)) := by apply bool_eq; simp
  have e5 : decide (10 < (t.cols.length : Int)) = !decide ((t.cols.length : Int) ≤ 10) := by apply bool_eq; simp
  generalize decide (0 ≤ t.id) = b1 at Hv e1
  generalize rightN (bs t.nm) = b2 at Hv HN
  generalize decide (t.nx ≤ 200) = b3 at Hv e3
  generalize decide (1 ≤ (t.cols.length : Int)) = b4 at Hv e4
  generalize decide ((t.cols.length : Int) ≤ 10) = b5 at Hv e5
  cases b1
  · replace e1 : decide (t.id < 0) = true := e1
    go_enter Tryz.func30, Tryz.ntmps30
    go_wp2_with fail
    go_ret
    exact ⟨by rw [Hv.out]; rfl, by go_grown⟩
  cases b2
  · replace e1 : decide (t.id < 0) = false := e1
    go_enter Tryz.func30, Tryz.ntmps30
    go_wp2_with fail
    refine (HN.out _).mono ?_
    rintro e w1 ⟨rfl, rfl⟩
    go_wp2_with fail
    go_ret
    exact ⟨by rw [Hv.out]; rfl, by go_grown⟩
  cases b4
  · replace e1 : decide (t.id < 0) = false := e1
    replace e4 : decide ((t.cols.length : Int) < 1) = true := e4
    go_enter Tryz.func30, Tryz.ntmps30
    go_wp2_with fail
    refine (HN.out _).mono ?_
    rintro e w1 ⟨rfl, rfl⟩
    go_wp2_with fail
    go_ret
    exact ⟨by rw [Hv.out]; simp, by go_grown⟩
  cases b5
  · replace e1 : decide (t.id < 0) = false := e1
    replace e4 : decide ((t.cols.length : Int) < 1) = false := e4
    replace e5 : decide (10 < (t.cols.length : Int)) = true := e5
    go_enter Tryz.func30, Tryz.ntmps30
    go_wp2_with fail
    refine (HN.out _).mono ?_
    rintro e w1 ⟨rfl, rfl⟩
    go_wp2_with fail
    go_ret
    exact ⟨by rw [Hv.out]; simp, by go_grown⟩
  cases b3
  · replace e1 : decide (t.id < 0) = false := e1
    replace e4 : decide ((t.cols.length : Int) < 1) = false := e4
    replace e5 : decide (10 < (t.cols.length : Int)) = false := e5
    replace e3 : decide (200 < t.nx) = true := e3
    go_enter Tryz.func30, Tryz.ntmps30
    go_wp2_with fail
    refine (HN.out _).mono ?_
    rintro e w1 ⟨rfl, rfl⟩
    go_wp2_with fail
    go_ret
    exact ⟨by rw [Hv.out]; rfl, by go_grown⟩
  · replace e1 : decide (t.id < 0) = false := e1
    replace e4 : decide ((t.cols.length : Int) < 1) = false := e4
    replace e5 : decide (10 < (t.cols.length : Int)) = false := e5
    replace e3 : decide (200 < t.nx) = false := e3
    go_enter Tryz.func30, Tryz.ntmps30
    go_wp2_with fail
    refine (HN.out _).mono ?_
    rintro e w1 ⟨rfl, rfl⟩
    go_wp2_with fail
    rw [Hw0.out]
    replace Hv : Hid (rightTab t = (rightCols t && tf (keyOk t))) := by show _ = _; rw [Hv.out]; simp
    clear e1 e3 e4 e5
    go_loopw [3, 4] (fun kb i wr => ∃ k : Nat, k ≤ t.cols.length ∧ i = .int .i64 k ∧ (∃ q : Bool, kb = .bool q ∧ Hid (((t.cols.take k).any fun c => (c.id == t.key) && !c.nl) = q)) ∧
      Hid (∀ j c, t.cols[j]? = some c → j < k → (rightC c && decide (c.id < t.nx)) = true) ∧ Hid (∀ j, j < k → OkAt Cb.id Cb.nm t.cols j) ∧ Hid (Below w0.heap.size w0 wr)) (fun _ i _ => t.cols.length - (intOf i).toNat)
    case atStart => exact ⟨0, by omega, rfl, ⟨false, rfl, rfl⟩, fun j v _ h => absurd h (by omega), fun j h => absurd h (by omega), Below.refl _ _⟩
    case round =>
      obtain ⟨k, hk, rfl, ⟨q, rfl, Hq⟩, hall, hok, hb⟩ := hrel
      have Hbw := Lib.hid (bthen Hb0.out hb.out)
      obtain ⟨c0, c1, c2, c3, c4⟩ := (HB.out.below hb.out (show w.heap.size < w0.heap.size by have := Hs0.out; omega)).tab
      by_cases hlt : k < t.cols.length
      · obtain ⟨c, hc⟩ : ∃ c, t.cols[k]? = some c := ⟨t.cols[k], by simp [hlt]⟩
        have Hc := Lib.hid hc
        obtain ⟨b, off, hAe, hbB, d0, d1, d2, d3, d4, d5, d6, d7⟩ := ColsAt.get (RowAt.below HA.out hb.out) k c hc
        rw [hAe] at c4
        obtain ⟨w1, hw1, hb1, hX, hs1⟩ := box_col wr c
        have Hw1 := Lib.hid hw1; clear hw1
        have Hs1 := Lib.hid hs1; clear hs1
        have HX := Lib.hid hX; clear hX
        have Hb1 := Lib.hid hb1
        have HA1 := Lib.hid (RowAt.to (RowAt.to HA.out hb.out) hb1)
        have Hbw1 := Lib.hid (bthen Hbw.out hb1); clear hb1
        have HC := Lib.hid (fun w => rrcol_any c w (HW.out.2.2.2 c (List.mem_of_getElem? hc)))
        clear hc
        have Hblt : Hid (b < wr.heap.size) := by show _ < _; have := hb.out.size; omega
        have Htlt : Hid (w.heap.size < wr.heap.size) := by show _ < _; have := hb.out.size; have := Hs0.out; omega
        have HL : Hid (∀ w' : World, TabAt w' w'.heap.size t → Calls Tryz.prog 43 #[.agg #[.int .i64 t.id, .string t.nm, .int .i64 t.key, .int .i64 t.nx, .slice (some ⟨b, off, none⟩) t.cols.length t.cap], .string c.nm] w' fun e w2 => e = .returned (.int .i64 (idxI (colI t c.nm))) ∧ Below w'.heap.size w' w2) := fun w' hA' => by
          have := rcolI_any t c.nm w' hA' hlen
          unfold TV at this
          rw [hAe] at this
          exact this
        have HAe := Lib.hid hAe; clear hAe
        have hne : Nonempty (BelowBy w1.heap.size w1) := ⟨⟨w1, Below.refl _ _⟩⟩
        have X0 : ∀ p : BelowBy w1.heap.size w1, p.x.cell? ⟨wr.heap.size, 0, none⟩ = some (.int .i64 c.id) := fun p => (p.h.cell (by have := Hs1.out; simp; omega)).trans (HX.out 0 _ rfl)
        have X1 : ∀ p : BelowBy w1.heap.size w1, p.x.cell? ⟨wr.heap.size, 1, none⟩ = some (.string c.nm) := fun p => (p.h.cell (by have := Hs1.out; simp; omega)).trans (HX.out 1 _ rfl)
        have X2 : ∀ p : BelowBy w1.heap.size w1, p.x.cell? ⟨wr.heap.size, 2, none⟩ = some (.int .i64 c.tk) := fun p => (p.h.cell (by have := Hs1.out; simp; omega)).trans (HX.out 2 _ rfl)
        have X3 : ∀ p : BelowBy w1.heap.size w1, p.x.cell? ⟨wr.heap.size, 3, none⟩ = some (.int .i64 c.tm) := fun p => (p.h.cell (by have := Hs1.out; simp; omega)).trans (HX.out 3 _ rfl)
        have X4 : ∀ p : BelowBy w1.heap.size w1, p.x.cell? ⟨wr.heap.size, 4, none⟩ = some (.bool c.nl) := fun p => (p.h.cell (by have := Hs1.out; simp; omega)).trans (HX.out 4 _ rfl)
        have X5 : ∀ p : BelowBy w1.heap.size w1, p.x.cell? ⟨wr.heap.size, 5, none⟩ = some (.int .i64 c.dk) := fun p => (p.h.cell (by have := Hs1.out; simp; omega)).trans (HX.out 5 _ rfl)
        have X6 : ∀ p : BelowBy w1.heap.size w1, p.x.cell? ⟨wr.heap.size, 6, none⟩ = some (.int .i64 c.dn) := fun p => (p.h.cell (by have := Hs1.out; simp; omega)).trans (HX.out 6 _ rfl)
        have X7 : ∀ p : BelowBy w1.heap.size w1, p.x.cell? ⟨wr.heap.size, 7, none⟩ = some (.string c.ds) := fun p => (p.h.cell (by have := Hs1.out; simp; omega)).trans (HX.out 7 _ rfl)
        have T0 : ∀ p : BelowBy w1.heap.size w1, p.x.cell? ⟨w.heap.size, 0, none⟩ = some (.int .i64 t.id) := fun p => (p.h.cell (by have := Hs1.out; have := Htlt.out; simp; omega)).trans ((Hb1.out.cell (p := ⟨w.heap.size, 0, none⟩) Htlt.out).trans c0)
        have T1 : ∀ p : BelowBy w1.heap.size w1, p.x.cell? ⟨w.heap.size, 1, none⟩ = some (.string t.nm) := fun p => (p.h.cell (by have := Hs1.out; have := Htlt.out; simp; omega)).trans ((Hb1.out.cell (p := ⟨w.heap.size, 1, none⟩) Htlt.out).trans c1)
        have T2 : ∀ p : BelowBy w1.heap.size w1, p.x.cell? ⟨w.heap.size, 2, none⟩ = some (.int .i64 t.key) := fun p => (p.h.cell (by have := Hs1.out; have := Htlt.out; simp; omega)).trans ((Hb1.out.cell (p := ⟨w.heap.size, 2, none⟩) Htlt.out).trans c2)
        have T3 : ∀ p : BelowBy w1.heap.size w1, p.x.cell? ⟨w.heap.size, 3, none⟩ = some (.int .i64 t.nx) := fun p => (p.h.cell (by have := Hs1.out; have := Htlt.out; simp; omega)).trans ((Hb1.out.cell (p := ⟨w.heap.size, 3, none⟩) Htlt.out).trans c3)
        have T4 : ∀ p : BelowBy w1.heap.size w1, p.x.cell? ⟨w.heap.size, 4, none⟩ = some (.slice (some ⟨b, off, none⟩) t.cols.length t.cap) := fun p => (p.h.cell (by have := Hs1.out; have := Htlt.out; simp; omega)).trans ((Hb1.out.cell (p := ⟨w.heap.size, 4, none⟩) Htlt.out).trans c4)
        cases hr : rightC c
        · have Hno : Hid (rightCols t = false) := rightCols_no1 Hc.out (by rw [hr]; rfl)
          rw [hr] at HC
          clear hr
          go_wp2_with fail
          rw [Hw1.out]
          refine wp_region_below w1.heap.size (by kernel_rfl) (by kernel_rfl) ?_
          repeat (
            with_reducible refine wpQuiet_step (fun K hK => ?_)
            go_simp
            refine hK _ ?_
            clear hK K)
          with_reducible refine wpQuiet_step (fun K hK => ?_)
          go_simp
          apply Exists.intro
          refine ⟨fun p => ?_, hK _ ?_⟩
          exact (HC.out _).mono fun e w5 ⟨he, hb⟩ => ⟨he, p.step (Nat.le_refl _) hb⟩
          clear hK K
          repeat (
            with_reducible refine wpQuiet_step (fun K hK => ?_)
            go_simp
            refine hK _ ?_
            clear hK K)
          refine wpQuiet_nil ?_
          rintro _ ⟨p, rfl⟩
          have c0 := X0 p; have c4 := X4 p; have c2 := T2 p
          go_wp2_with fail
          go_ret
          exact ⟨by rw [Hv.out, Hno.out]; rfl, bthen Hbw1.out p.h⟩
        · cases hx : decide (t.nx ≤ c.id)
          · have Hcc : Hid ((rightC c && decide (c.id < t.nx)) = true) := by show _ = _; rw [hr]; simpa using hx
            rw [hr] at HC
            clear hr
            by_cases hk0 : k = 0
            · subst hk0
              simp only [Nat.zero_mul, Nat.add_zero] at d0 d1 d2 d3 d4 d5 d6 d7
              have Hco : Hid (colI t c.nm = some 0) := find_at (fun j x _ h => absurd h (by omega)) Hc.out (eqS_self _)
              have Hok : Hid (∀ j, j < 0 + 1 → OkAt Cb.id Cb.nm t.cols j) := ok_more hok.out Hc.out (fun y h _ => absurd h (by omega)) Hco.out
              have hie : idxI (colI t c.nm) = 0 := by rw [Hco.out]; rfl
              rw [hie] at HL
              clear hie
              have Hall : Hid (∀ j d, t.cols[j]? = some d → j < 0 + 1 → (rightC d && decide (d.id < t.nx)) = true) := fun j d hj hk => by
                by_cases e : j = 0
                · subst e
                  rw [Hc.out] at hj
                  cases hj
                  exact Hcc.out
                · exact hall.out j d hj (by omega)
              cases q
              · cases hid : (c.id == t.key)
                · have Hq' : Hid (((t.cols.take (0 + 1)).any fun c => (c.id == t.key) && !c.nl) = false) := by show _ = _; rw [any_take Hc.out, Hq.out]; rw [hid]; rfl
                  go_wp2_with fail
                  rw [Hw1.out]
                  refine wp_region_below w1.heap.size (by kernel_rfl) (by kernel_rfl) ?_
                  repeat (
                    with_reducible refine wpQuiet_step (fun K hK => ?_)
                    go_simp
                    refine hK _ ?_
                    clear hK K)
                  with_reducible refine wpQuiet_step (fun K hK => ?_)
                  go_simp
                  apply Exists.intro
                  refine ⟨fun p => ?_, hK _ ?_⟩
                  exact (HC.out _).mono fun e w5 ⟨he, hb⟩ => ⟨he, p.step (Nat.le_refl _) hb⟩
                  clear hK K
                  repeat (
                    with_reducible refine wpQuiet_step (fun K hK => ?_)
                    go_simp
                    refine hK _ ?_
                    clear hK K)
                  with_reducible refine wpQuiet_step (fun K hK => ?_)
                  go_simp
                  apply Exists.intro
                  refine ⟨fun p => ?_, hK _ ?_⟩
                  exact (HL.out _ (RowAt.to HA1.out p.h)).mono fun e w5 ⟨he, hb⟩ => ⟨he, p.step (Nat.le_refl _) hb⟩
                  clear hK K
                  repeat (
                    with_reducible refine wpQuiet_step (fun K hK => ?_)
                    go_simp
                    refine hK _ ?_
                    clear hK K)
                  refine wpQuiet_nil ?_
                  rintro _ ⟨p, rfl⟩
                  have c0 := X0 p; have c4 := X4 p; have c2 := T2 p
                  go_wp2_with fail
                  go_roundw
                  case rel => exact ⟨0 + 1, by omega, by go_num, ⟨_, rfl, Hq'⟩, Hall, Hok, bthen (bthen hb.out Hb1.out) p.h⟩
                  case measure => simp [intOf]; omega
                · have Hq' : Hid (((t.cols.take (0 + 1)).any fun c => (c.id == t.key) && !c.nl) = !c.nl) := by show _ = _; rw [any_take Hc.out, Hq.out]; rw [hid]; rfl
                  go_wp2_with fail
                  rw [Hw1.out]
                  refine wp_region_below w1.heap.size (by kernel_rfl) (by kernel_rfl) ?_
                  repeat (
                    with_reducible refine wpQuiet_step (fun K hK => ?_)
                    go_simp
                    refine hK _ ?_
                    clear hK K)
                  with_reducible refine wpQuiet_step (fun K hK => ?_)
                  go_simp
                  apply Exists.intro
                  refine ⟨fun p => ?_, hK _ ?_⟩
                  exact (HC.out _).mono fun e w5 ⟨he, hb⟩ => ⟨he, p.step (Nat.le_refl _) hb⟩
                  clear hK K
                  repeat (
                    with_reducible refine wpQuiet_step (fun K hK => ?_)
                    go_simp
                    refine hK _ ?_
                    clear hK K)
                  with_reducible refine wpQuiet_step (fun K hK => ?_)
                  go_simp
                  apply Exists.intro
                  refine ⟨fun p => ?_, hK _ ?_⟩
                  exact (HL.out _ (RowAt.to HA1.out p.h)).mono fun e w5 ⟨he, hb⟩ => ⟨he, p.step (Nat.le_refl _) hb⟩
                  clear hK K
                  repeat (
                    with_reducible refine wpQuiet_step (fun K hK => ?_)
                    go_simp
                    refine hK _ ?_
                    clear hK K)
                  refine wpQuiet_nil ?_
                  rintro _ ⟨p, rfl⟩
                  have c0 := X0 p; have c4 := X4 p; have c2 := T2 p
                  go_wp2_with fail
                  go_roundw
                  case rel => exact ⟨0 + 1, by omega, by go_num, ⟨_, rfl, Hq'⟩, Hall, Hok, bthen (bthen hb.out Hb1.out) p.h⟩
                  case measure => simp [intOf]; omega
              · have Hq' : Hid (((t.cols.take (0 + 1)).any fun c => (c.id == t.key) && !c.nl) = true) := by show _ = _; rw [any_take Hc.out, Hq.out]; rfl
                go_wp2_with fail
                rw [Hw1.out]
                refine wp_region_below w1.heap.size (by kernel_rfl) (by kernel_rfl) ?_
                repeat (
                  with_reducible refine wpQuiet_step (fun K hK => ?_)
                  go_simp
                  refine hK _ ?_
                  clear hK K)
                with_reducible refine wpQuiet_step (fun K hK => ?_)
                go_simp
                apply Exists.intro
                refine ⟨fun p => ?_, hK _ ?_⟩
                exact (HC.out _).mono fun e w5 ⟨he, hb⟩ => ⟨he, p.step (Nat.le_refl _) hb⟩
                clear hK K
                repeat (
                  with_reducible refine wpQuiet_step (fun K hK => ?_)
                  go_simp
                  refine hK _ ?_
                  clear hK K)
                with_reducible refine wpQuiet_step (fun K hK => ?_)
                go_simp
                apply Exists.intro
                refine ⟨fun p => ?_, hK _ ?_⟩
                exact (HL.out _ (RowAt.to HA1.out p.h)).mono fun e w5 ⟨he, hb⟩ => ⟨he, p.step (Nat.le_refl _) hb⟩
                clear hK K
                repeat (
                  with_reducible refine wpQuiet_step (fun K hK => ?_)
                  go_simp
                  refine hK _ ?_
                  clear hK K)
                refine wpQuiet_nil ?_
                rintro _ ⟨p, rfl⟩
                have c0 := X0 p; have c4 := X4 p; have c2 := T2 p
                go_wp2_with fail
                go_roundw
                case rel => exact ⟨0 + 1, by omega, by go_num, ⟨_, rfl, Hq'⟩, Hall, Hok, bthen (bthen hb.out Hb1.out) p.h⟩
                case measure => simp [intOf]; omega
            · obtain ⟨j, rfl⟩ : ∃ j, k = j + 1 := ⟨k - 1, by omega⟩
              clear hk0
              obtain ⟨y, hy⟩ : ∃ y, t.cols[j]? = some y := ⟨t.cols[j]'(by omega), by simp [show j < t.cols.length by omega]⟩
              have Hy := Lib.hid hy
              obtain ⟨b', off', e', _, y0, _⟩ := ColsAt.get (RowAt.below HA.out hb.out) j y hy
              rw [HAe.out] at e'
              cases e'
              clear hy
              have Y0 : ∀ p : BelowBy w1.heap.size w1, p.x.cell? ⟨b, off + j * 8, none⟩ = some (.int .i64 y.id) := fun p => (p.h.cell (by have := Hs1.out; have := Hblt.out; simp; omega)).trans ((Hb1.out.cell (p := ⟨b, off + j * 8, none⟩) Hblt.out).trans y0)
              have hwj : IntKind.i64.wrap (j : Int) = (j : Int) := by rw [IntKind.wrap_i64]; omega
              have hj0 : (0 : Int) ≤ (j : Int) := by omega
              have hjl : (j : Int) < (t.cols.length : Int) := by omega
              cases hd : decide (c.id ≤ y.id)
              · have Hlt : Hid (y.id < c.id) := by have h := of_decide_eq_false hd; show _ < _; omega
                have Hpr : Hid (∀ z, 0 < j + 1 → t.cols[j + 1 - 1]? = some z → z.id < c.id) := fun z _ hz => by
                  rw [show j + 1 - 1 = j by omega, Hy.out] at hz
                  cases hz
                  exact Hlt.out
                by_cases hco : colI t c.nm = some (j + 1)
                · have Hco := Lib.hid hco
                  have Hok : Hid (∀ i, i < j + 1 + 1 → OkAt Cb.id Cb.nm t.cols i) := ok_more hok.out Hc.out Hpr.out Hco.out
                  have hie : idxI (colI t c.nm) = ((j + 1 : Nat) : Int) := by rw [Hco.out]; rfl
                  rw [hie] at HL
                  clear hie hco
                  have Hall : Hid (∀ i d, t.cols[i]? = some d → i < j + 1 + 1 → (rightC d && decide (d.id < t.nx)) = true) := fun i d hj hk => by
                    by_cases e : i = j + 1
                    · subst e
                      rw [Hc.out] at hj
                      cases hj
                      exact Hcc.out
                    · exact hall.out i d hj (by omega)
                  cases q
                  · cases hid : (c.id == t.key)
                    · have Hq' : Hid (((t.cols.take (j + 1 + 1)).any fun c => (c.id == t.key) && !c.nl) = false) := by show _ = _; rw [any_take Hc.out, Hq.out]; rw [hid]; rfl
                      go_wp2_with fail
                      rw [Hw1.out]
                      refine wp_region_below w1.heap.size (by kernel_rfl) (by kernel_rfl) ?_
                      repeat (
                        with_reducible refine wpQuiet_step (fun K hK => ?_)
                        go_simp
                        refine hK _ ?_
                        clear hK K)
                      with_reducible refine wpQuiet_step (fun K hK => ?_)
                      go_simp
                      apply Exists.intro
                      refine ⟨fun p => ?_, hK _ ?_⟩
                      exact (HC.out _).mono fun e w5 ⟨he, hb⟩ => ⟨he, p.step (Nat.le_refl _) hb⟩
                      clear hK K
                      repeat (
                        with_reducible refine wpQuiet_step (fun K hK => ?_)
                        go_simp
                        refine hK _ ?_
                        clear hK K)
                      with_reducible refine wpQuiet_step (fun K hK => ?_)
                      go_simp
                      apply Exists.intro
                      refine ⟨fun p => ?_, hK _ ?_⟩
                      exact (HL.out _ (RowAt.to HA1.out p.h)).mono fun e w5 ⟨he, hb⟩ => ⟨he, p.step (Nat.le_refl _) hb⟩
                      clear hK K
                      repeat (
                        with_reducible refine wpQuiet_step (fun K hK => ?_)
                        go_simp
                        refine hK _ ?_
                        clear hK K)
                      refine wpQuiet_nil ?_
                      rintro _ ⟨p, rfl⟩
                      have c0 := X0 p; have c4 := X4 p; have c2 := T2 p
                      go_wp2_with fail
                      go_roundw
                      case rel => exact ⟨j + 1 + 1, by omega, by go_num, ⟨_, rfl, Hq'⟩, Hall, Hok, bthen (bthen hb.out Hb1.out) p.h⟩
                      case measure => simp [intOf]; omega
                    · have Hq' : Hid (((t.cols.take (j + 1 + 1)).any fun c => (c.id == t.key) && !c.nl) = !c.nl) := by show _ = _; rw [any_take Hc.out, Hq.out]; rw [hid]; rfl
                      go_wp2_with fail
                      rw [Hw1.out]
                      refine wp_region_below w1.heap.size (by kernel_rfl) (by kernel_rfl) ?_
                      repeat (
                        with_reducible refine wpQuiet_step (fun K hK => ?_)
                        go_simp
                        refine hK _ ?_
                        clear hK K)
                      with_reducible refine wpQuiet_step (fun K hK => ?_)
                      go_simp
                      apply Exists.intro
                      refine ⟨fun p => ?_, hK _ ?_⟩
                      exact (HC.out _).mono fun e w5 ⟨he, hb⟩ => ⟨he, p.step (Nat.le_refl _) hb⟩
                      clear hK K
                      repeat (
                        with_reducible refine wpQuiet_step (fun K hK => ?_)
                        go_simp
                        refine hK _ ?_
                        clear hK K)
                      with_reducible refine wpQuiet_step (fun K hK => ?_)
                      go_simp
                      apply Exists.intro
                      refine ⟨fun p => ?_, hK _ ?_⟩
                      exact (HL.out _ (RowAt.to HA1.out p.h)).mono fun e w5 ⟨he, hb⟩ => ⟨he, p.step (Nat.le_refl _) hb⟩
                      clear hK K
                      repeat (
                        with_reducible refine wpQuiet_step (fun K hK => ?_)
                        go_simp
                        refine hK _ ?_
                        clear hK K)
                      refine wpQuiet_nil ?_
                      rintro _ ⟨p, rfl⟩
                      have c0 := X0 p; have c4 := X4 p; have c2 := T2 p
                      go_wp2_with fail
                      go_roundw
                      case rel => exact ⟨j + 1 + 1, by omega, by go_num, ⟨_, rfl, Hq'⟩, Hall, Hok, bthen (bthen hb.out Hb1.out) p.h⟩
                      case measure => simp [intOf]; omega
                  · have Hq' : Hid (((t.cols.take (j + 1 + 1)).any fun c => (c.id == t.key) && !c.nl) = true) := by show _ = _; rw [any_take Hc.out, Hq.out]; rfl
                    go_wp2_with fail
                    rw [Hw1.out]
                    refine wp_region_below w1.heap.size (by kernel_rfl) (by kernel_rfl) ?_
                    repeat (
                      with_reducible refine wpQuiet_step (fun K hK => ?_)
                      go_simp
                      refine hK _ ?_
                      clear hK K)
                    with_reducible refine wpQuiet_step (fun K hK => ?_)
                    go_simp
                    apply Exists.intro
                    refine ⟨fun p => ?_, hK _ ?_⟩
                    exact (HC.out _).mono fun e w5 ⟨he, hb⟩ => ⟨he, p.step (Nat.le_refl _) hb⟩
                    clear hK K
                    repeat (
                      with_reducible refine wpQuiet_step (fun K hK => ?_)
                      go_simp
                      refine hK _ ?_
                      clear hK K)
                    with_reducible refine wpQuiet_step (fun K hK => ?_)
                    go_simp
                    apply Exists.intro
                    refine ⟨fun p => ?_, hK _ ?_⟩
                    exact (HL.out _ (RowAt.to HA1.out p.h)).mono fun e w5 ⟨he, hb⟩ => ⟨he, p.step (Nat.le_refl _) hb⟩
                    clear hK K
                    repeat (
                      with_reducible refine wpQuiet_step (fun K hK => ?_)
                      go_simp
                      refine hK _ ?_
                      clear hK K)
                    refine wpQuiet_nil ?_
                    rintro _ ⟨p, rfl⟩
                    have c0 := X0 p; have c4 := X4 p; have c2 := T2 p
                    go_wp2_with fail
                    go_roundw
                    case rel => exact ⟨j + 1 + 1, by omega, by go_num, ⟨_, rfl, Hq'⟩, Hall, Hok, bthen (bthen hb.out Hb1.out) p.h⟩
                    case measure => simp [intOf]; omega
                · have Hno : Hid (rightCols t = false) := rightCols_no2 (dist_no_nm Hc.out hco)
                  have hie : (idxI (colI t c.nm) == ((j : Int) + 1)) = false := by have := idxI_eq (colI t c.nm) (j + 1); rw [decide_eq_false hco] at this; simpa using this
                  generalize idxI (colI t c.nm) = z at HL hie
                  clear hco
                  go_wp2_with fail
                  rw [Hw1.out]
                  refine wp_region_below w1.heap.size (by kernel_rfl) (by kernel_rfl) ?_
                  repeat (
                    with_reducible refine wpQuiet_step (fun K hK => ?_)
                    go_simp
                    refine hK _ ?_
                    clear hK K)
                  with_reducible refine wpQuiet_step (fun K hK => ?_)
                  go_simp
                  apply Exists.intro
                  refine ⟨fun p => ?_, hK _ ?_⟩
                  exact (HC.out _).mono fun e w5 ⟨he, hb⟩ => ⟨he, p.step (Nat.le_refl _) hb⟩
                  clear hK K
                  repeat (
                    with_reducible refine wpQuiet_step (fun K hK => ?_)
                    go_simp
                    refine hK _ ?_
                    clear hK K)
                  with_reducible refine wpQuiet_step (fun K hK => ?_)
                  go_simp
                  apply Exists.intro
                  refine ⟨fun p => ?_, hK _ ?_⟩
                  exact (HL.out _ (RowAt.to HA1.out p.h)).mono fun e w5 ⟨he, hb⟩ => ⟨he, p.step (Nat.le_refl _) hb⟩
                  clear hK K
                  repeat (
                    with_reducible refine wpQuiet_step (fun K hK => ?_)
                    go_simp
                    refine hK _ ?_
                    clear hK K)
                  refine wpQuiet_nil ?_
                  rintro _ ⟨p, rfl⟩
                  have c0 := X0 p; have c4 := X4 p; have c2 := T2 p
                  go_wp2_with fail
                  go_ret
                  exact ⟨by rw [Hv.out, Hno.out]; rfl, bthen Hbw1.out p.h⟩
              · have Hno : Hid (rightCols t = false) := rightCols_no2 (dist_no_id Hc.out Hy.out (of_decide_eq_true hd))
                go_wp2_with fail
                rw [Hw1.out]
                refine wp_region_below w1.heap.size (by kernel_rfl) (by kernel_rfl) ?_
                repeat (
                  with_reducible refine wpQuiet_step (fun K hK => ?_)
                  go_simp
                  refine hK _ ?_
                  clear hK K)
                with_reducible refine wpQuiet_step (fun K hK => ?_)
                go_simp
                apply Exists.intro
                refine ⟨fun p => ?_, hK _ ?_⟩
                exact (HC.out _).mono fun e w5 ⟨he, hb⟩ => ⟨he, p.step (Nat.le_refl _) hb⟩
                clear hK K
                repeat (
                  with_reducible refine wpQuiet_step (fun K hK => ?_)
                  go_simp
                  refine hK _ ?_
                  clear hK K)
                refine wpQuiet_nil ?_
                rintro _ ⟨p, rfl⟩
                have c0 := X0 p; have c4 := X4 p; have c2 := T2 p
                go_wp2_with fail
                go_ret
                exact ⟨by rw [Hv.out, Hno.out]; rfl, bthen Hbw1.out p.h⟩
          · have Hno : Hid (rightCols t = false) := rightCols_no1 Hc.out (by rw [hr]; simpa using hx)
            rw [hr] at HC
            clear hr
            go_wp2_with fail
            rw [Hw1.out]
            refine wp_region_below w1.heap.size (by kernel_rfl) (by kernel_rfl) ?_
            repeat (
              with_reducible refine wpQuiet_step (fun K hK => ?_)
              go_simp
              refine hK _ ?_
              clear hK K)
            with_reducible refine wpQuiet_step (fun K hK => ?_)
            go_simp
            apply Exists.intro
            refine ⟨fun p => ?_, hK _ ?_⟩
            exact (HC.out _).mono fun e w5 ⟨he, hb⟩ => ⟨he, p.step (Nat.le_refl _) hb⟩
            clear hK K
            repeat (
              with_reducible refine wpQuiet_step (fun K hK => ?_)
              go_simp
              refine hK _ ?_
              clear hK K)
            refine wpQuiet_nil ?_
            rintro _ ⟨p, rfl⟩
            have c0 := X0 p; have c4 := X4 p; have c2 := T2 p
            go_wp2_with fail
            go_ret
            exact ⟨by rw [Hv.out, Hno.out]; rfl, bthen Hbw1.out p.h⟩
      · have Hd : Hid (Dist Cb.id Cb.nm t.cols) := fun i hi => hok.out i (by omega)
        have Hyes : Hid (rightTab t = q) := by
          show _ = _
          rw [Hv.out, rightCols_yes (fun j c hj => hall.out j c hj (by have := (List.getElem?_eq_some_iff.1 hj).1; omega)) Hd.out, key_any Hd.out, ← Hq.out, List.take_of_length_le (by omega)]; rfl
        go_wp2_with fail
        go_ret
        exact ⟨by rw [Hyes.out]; rfl, Hbw.out⟩
end Go.Proofs.YtlbdbaafmdikcaaGreatDoor

/-
  Contract of the document's own Right of layer 8.
-/
namespace Go.Proofs.YtlbdbaafmdikcaaGreatDoor
open Go.RowKit

theorem ok_moreT {l : List Tb} {k : Nat} {x : Tb} (h : ∀ j, j < k → OkAt Tb.id Tb.nm l j) (hx : l[k]? = some x) (h1 : ∀ y, 0 < k → l[k - 1]? = some y → y.id < x.id)
    (h2 : (l.findIdx? fun y => eqS y.nm x.nm) = some k) : ∀ j, j < k + 1 → OkAt Tb.id Tb.nm l j := fun j hj => by
  by_cases e : j = k
  · subst e
    intro z hz
    rw [hx] at hz; cases hz
    exact ⟨h1, (find_ownT hx).1 h2⟩
  · exact h j (by omega)
theorem dist_no_idT {l : List Tb} {j : Nat} {x y : Tb} (hx : l[j + 1]? = some x) (hy : l[j]? = some y) (h2 : x.id ≤ y.id) : ¬ Dist Tb.id Tb.nm l := fun h => by
  have := (h (j + 1) (List.getElem?_eq_some_iff.1 hx).1 x hx).1 y (by omega) (by simpa using hy)
  omega
theorem dist_no_nmT {l : List Tb} {k : Nat} {x : Tb} (hx : l[k]? = some x) (h2 : (l.findIdx? fun y => eqS y.nm x.nm) ≠ some k) : ¬ Dist Tb.id Tb.nm l := fun h =>
  h2 ((find_ownT hx).2 (h k (List.getElem?_eq_some_iff.1 hx).1 x hx).2)
theorem rightCat_no1 {l : List Tb} {k : Nat} {x : Tb} (hx : l[k]? = some x) (h : rightTab x = false) : (l.all rightTab && tf (Dist Tb.id Tb.nm l)) = false := by
  have : l.all rightTab = false := by
    cases e : l.all rightTab with
    | false => rfl
    | true =>
      rw [List.all_eq_true] at e
      have := e x (List.mem_of_getElem? hx)
      rw [h] at this; cases this
  rw [this]; rfl

set_option maxRecDepth 100000 in
set_option maxHeartbeats 4000000 in
theorem rrcat_any (A : Option Addr) (cp : Nat) (l : List Tb) (w : World) (hA : TabsAt w w.heap.size A l) (hw : ∀ t ∈ l, WfT t) (hl : l.length ≤ 1000000) :
    Calls Tryz.prog 17 #[.agg #[.slice A l.length cp]] w fun e w' => e = .returned (.bool (rightCat l)) ∧ Below w.heap.size w w' := by
  obtain ⟨w0, hw0, hb0, hB, hs0⟩ := box_one w (.slice A l.length cp) 37
  have Hw0 := Lib.hid hw0; clear hw0
  have Hb0 := Lib.hid hb0
  have HA := Lib.hid (hA.to hb0); clear hA hb0
  have HB := Lib.hid hB.one; clear hB
  have Hs0 := Lib.hid hs0; clear hs0
  have HW := Lib.hid hw; clear hw
  have Hv : Hid (rightCat l = (decide ((l.length : Int) ≤ 6) && (l.all rightTab && tf (Dist Tb.id Tb.nm l)))) := rfl
  have e1 : decide (6 < (l.length : Int)) = !decide ((l.length : Int) ≤ 6) := by apply bool_eq; simp
  generalize decide ((l.length : Int) ≤ 6) = b1 at Hv e1
  cases b1
  · replace e1 : decide (6 < (l.length : Int)) = true := e1
    go_enter Tryz.func17, Tryz.ntmps17
    go_wp2_with fail
    go_ret
    exact ⟨by rw [Hv.out]; rfl, by go_grown⟩
  replace e1 : decide (6 < (l.length : Int)) = false := e1
  go_enter Tryz.func17, Tryz.ntmps17
  go_wp2_with fail
  rw [Hw0.out]
  replace Hv : Hid (rightCat l = (l.all rightTab && tf (Dist Tb.id Tb.nm l))) := by show _ = _; rw [Hv.out]; simp
  clear e1
  go_loopw [3] (fun i wr => ∃ k : Nat, k ≤ l.length ∧ i = .int .i64 k ∧ Hid (∀ j c, l[j]? = some c → j < k → rightTab c = true) ∧ Hid (∀ j, j < k → OkAt Tb.id Tb.nm l j) ∧ Hid (Below w0.heap.size w0 wr)) (fun i _ => l.length - (intOf i).toNat)
  case atStart => exact ⟨0, by omega, rfl, fun j v _ h => absurd h (by omega), fun j h => absurd h (by omega), Below.refl _ _⟩
  case round =>
    obtain ⟨k, hk, rfl, hall, hok, hb⟩ := hrel
    have Hbw := Lib.hid (bthen Hb0.out hb.out)
    have c0 : wr.cell? ⟨w.heap.size, 0, none⟩ = some (.slice A l.length cp) := (hb.out.cell (by have := Hs0.out; simp; omega)).trans HB.out
    by_cases hlt : k < l.length
    · obtain ⟨x, hx⟩ : ∃ x, l[k]? = some x := ⟨l[k], by simp [hlt]⟩
      have Hx := Lib.hid hx
      obtain ⟨b, off, hAe, hbB, d0, d1, d2, d3, d4⟩ := (HA.out.below hb.out).get k x hx
      rw [hAe] at c0
      obtain ⟨w1, hw1, hb1, hX, hs1⟩ := box_tab wr x
      have Hw1 := Lib.hid hw1; clear hw1
      have Hs1 := Lib.hid hs1; clear hs1
      have HX := Lib.hid hX; clear hX
      have Hb1 := Lib.hid hb1
      have HA1 := Lib.hid ((HA.out.to hb.out).to hb1)
      have Hbw1 := Lib.hid (bthen Hbw.out hb1); clear hb1
      have HC := Lib.hid (fun w' hA' => rrtab_any x w' (HW.out x (List.mem_of_getElem? hx)) hA')
      have Hxm := Lib.hid (List.mem_of_getElem? hx)
      clear hx
      have Hblt : Hid (b < wr.heap.size) := by show _ < _; have := hb.out.size; omega
      have Htlt : Hid (w.heap.size < wr.heap.size) := by show _ < _; have := hb.out.size; have := Hs0.out; omega
      have HL : Hid (∀ w' : World, TabsAt w' w'.heap.size A l → Calls Tryz.prog 31 #[.agg #[.slice (some ⟨b, off, none⟩) l.length cp], .string x.nm] w' fun e w2 => e = .returned (.int .i64 (idxI (l.findIdx? fun y => eqS y.nm x.nm))) ∧ Below w'.heap.size w' w2) := fun w' hA' => by
        have := rfind_any A cp l x.nm w' hA' hl
        rw [hAe] at this
        exact this
      have HAe := Lib.hid hAe; clear hAe
      have hne : Nonempty (BelowBy w1.heap.size w1) := ⟨⟨w1, Below.refl _ _⟩⟩
      have X0 : ∀ p : BelowBy w1.heap.size w1, p.x.cell? ⟨wr.heap.size, 0, none⟩ = some (.int .i64 x.id) := fun p => (p.h.cell (by have := Hs1.out; simp; omega)).trans (HX.out 0 _ rfl)
      have X1 : ∀ p : BelowBy w1.heap.size w1, p.x.cell? ⟨wr.heap.size, 1, none⟩ = some (.string x.nm) := fun p => (p.h.cell (by have := Hs1.out; simp; omega)).trans (HX.out 1 _ rfl)
      have X2 : ∀ p : BelowBy w1.heap.size w1, p.x.cell? ⟨wr.heap.size, 2, none⟩ = some (.int .i64 x.key) := fun p => (p.h.cell (by have := Hs1.out; simp; omega)).trans (HX.out 2 _ rfl)
      have X3 : ∀ p : BelowBy w1.heap.size w1, p.x.cell? ⟨wr.heap.size, 3, none⟩ = some (.int .i64 x.nx) := fun p => (p.h.cell (by have := Hs1.out; simp; omega)).trans (HX.out 3 _ rfl)
      have X4 : ∀ p : BelowBy w1.heap.size w1, p.x.cell? ⟨wr.heap.size, 4, none⟩ = some (.slice x.A x.cols.length x.cap) := fun p => (p.h.cell (by have := Hs1.out; simp; omega)).trans (HX.out 4 _ rfl)
      have T0 : ∀ p : BelowBy w1.heap.size w1, p.x.cell? ⟨w.heap.size, 0, none⟩ = some (.slice (some ⟨b, off, none⟩) l.length cp) := fun p => (p.h.cell (by have := Hs1.out; have := Htlt.out; simp; omega)).trans ((Hb1.out.cell (p := ⟨w.heap.size, 0, none⟩) Htlt.out).trans c0)
      cases hr : rightTab x
      · have Hno : Hid ((l.all rightTab && tf (Dist Tb.id Tb.nm l)) = false) := rightCat_no1 Hx.out hr
        rw [hr] at HC
        clear hr
        go_wp2_with fail
        rw [Hw1.out]
        refine wp_region_below w1.heap.size (by kernel_rfl) (by kernel_rfl) ?_
        repeat (
          with_reducible refine wpQuiet_step (fun K hK => ?_)
          go_simp
          refine hK _ ?_
          clear hK K)
        with_reducible refine wpQuiet_step (fun K hK => ?_)
        go_simp
        apply Exists.intro
        refine ⟨fun p => ?_, hK _ ?_⟩
        exact (HC.out _ ((HA1.out.to p.h).2 x Hxm.out)).mono fun e w5 ⟨he, hb⟩ => ⟨he, p.step (Nat.le_refl _) hb⟩
        clear hK K
        repeat (
          with_reducible refine wpQuiet_step (fun K hK => ?_)
          go_simp
          refine hK _ ?_
          clear hK K)
        refine wpQuiet_nil ?_
        rintro _ ⟨p, rfl⟩
        go_wp2_with fail
        go_ret
        exact ⟨by rw [Hv.out, Hno.out]; rfl, bthen Hbw1.out p.h⟩
      · have Hcc := Lib.hid hr
        rw [hr] at HC
        clear hr
        by_cases hk0 : k = 0
        · subst hk0
          simp only [Nat.zero_mul, Nat.add_zero] at d0 d1 d2 d3 d4
          have Hco : Hid ((l.findIdx? fun y => eqS y.nm x.nm) = some 0) := find_at (fun j x _ h => absurd h (by omega)) Hx.out (eqS_self _)
          have Hok : Hid (∀ j, j < 0 + 1 → OkAt Tb.id Tb.nm l j) := ok_moreT hok.out Hx.out (fun y h _ => absurd h (by omega)) Hco.out
          have hie : idxI (l.findIdx? fun y => eqS y.nm x.nm) = 0 := by rw [Hco.out]; rfl
          rw [hie] at HL
          clear hie
          have Hall : Hid (∀ i d, l[i]? = some d → i < 0 + 1 → rightTab d = true) := fun i d hj hk => by
            by_cases e : i = 0
            · subst e
              rw [Hx.out] at hj
              cases hj
              exact Hcc.out
            · exact hall.out i d hj (by omega)
          go_wp2_with fail
          rw [Hw1.out]
          refine wp_region_below w1.heap.size (by kernel_rfl) (by kernel_rfl) ?_
          repeat (
            with_reducible refine wpQuiet_step (fun K hK => ?_)
            go_simp
            refine hK _ ?_
            clear hK K)
          with_reducible refine wpQuiet_step (fun K hK => ?_)
          go_simp
          apply Exists.intro
          refine ⟨fun p => ?_, hK _ ?_⟩
          exact (HC.out _ ((HA1.out.to p.h).2 x Hxm.out)).mono fun e w5 ⟨he, hb⟩ => ⟨he, p.step (Nat.le_refl _) hb⟩
          clear hK K
          repeat (
            with_reducible refine wpQuiet_step (fun K hK => ?_)
            go_simp
            refine hK _ ?_
            clear hK K)
          with_reducible refine wpQuiet_step (fun K hK => ?_)
          go_simp
          apply Exists.intro
          refine ⟨fun p => ?_, hK _ ?_⟩
          exact (HL.out _ (HA1.out.to p.h)).mono fun e w5 ⟨he, hb⟩ => ⟨he, p.step (Nat.le_refl _) hb⟩
          clear hK K
          repeat (
            with_reducible refine wpQuiet_step (fun K hK => ?_)
            go_simp
            refine hK _ ?_
            clear hK K)
          refine wpQuiet_nil ?_
          rintro _ ⟨p, rfl⟩
          go_wp2_with fail
          go_roundw
          case rel => exact ⟨0 + 1, by omega, by go_num, Hall, Hok, bthen (bthen hb.out Hb1.out) p.h⟩
          case measure => simp [intOf]; omega
        · obtain ⟨j, rfl⟩ : ∃ j, k = j + 1 := ⟨k - 1, by omega⟩
          clear hk0
          obtain ⟨y, hy⟩ : ∃ y, l[j]? = some y := ⟨l[j]'(by omega), by simp [show j < l.length by omega]⟩
          have Hy := Lib.hid hy
          obtain ⟨b', off', e', _, y0, _⟩ := (HA.out.below hb.out).get j y hy
          rw [HAe.out] at e'
          cases e'
          clear hy
          have Y0 : ∀ p : BelowBy w1.heap.size w1, p.x.cell? ⟨b, off + j * 5, none⟩ = some (.int .i64 y.id) := fun p => (p.h.cell (by have := Hs1.out; have := Hblt.out; simp; omega)).trans ((Hb1.out.cell (p := ⟨b, off + j * 5, none⟩) Hblt.out).trans y0)
          have hwj : IntKind.i64.wrap (j : Int) = (j : Int) := by rw [IntKind.wrap_i64]; omega
          have hj0 : (0 : Int) ≤ (j : Int) := by omega
          have hjl : (j : Int) < (l.length : Int) := by omega
          cases hd : decide (x.id ≤ y.id)
          · have Hlt : Hid (y.id < x.id) := by have h := of_decide_eq_false hd; show _ < _; omega
            have Hpr : Hid (∀ z, 0 < j + 1 → l[j + 1 - 1]? = some z → z.id < x.id) := fun z _ hz => by
              rw [show j + 1 - 1 = j by omega, Hy.out] at hz
              cases hz
              exact Hlt.out
            by_cases hco : (l.findIdx? fun y => eqS y.nm x.nm) = some (j + 1)
            · have Hco := Lib.hid hco
              have Hok : Hid (∀ i, i < j + 1 + 1 → OkAt Tb.id Tb.nm l i) := ok_moreT hok.out Hx.out Hpr.out Hco.out
              have hie : idxI (l.findIdx? fun y => eqS y.nm x.nm) = ((j + 1 : Nat) : Int) := by rw [Hco.out]; rfl
              rw [hie] at HL
              clear hie hco
              have Hall : Hid (∀ i d, l[i]? = some d → i < j + 1 + 1 → rightTab d = true) := fun i d hj hk => by
                by_cases e : i = j + 1
                · subst e
                  rw [Hx.out] at hj
                  cases hj
                  exact Hcc.out
                · exact hall.out i d hj (by omega)
              go_wp2_with fail
              rw [Hw1.out]
              refine wp_region_below w1.heap.size (by kernel_rfl) (by kernel_rfl) ?_
              repeat (
                with_reducible refine wpQuiet_step (fun K hK => ?_)
                go_simp
                refine hK _ ?_
                clear hK K)
              with_reducible refine wpQuiet_step (fun K hK => ?_)
              go_simp
              apply Exists.intro
              refine ⟨fun p => ?_, hK _ ?_⟩
              exact (HC.out _ ((HA1.out.to p.h).2 x Hxm.out)).mono fun e w5 ⟨he, hb⟩ => ⟨he, p.step (Nat.le_refl _) hb⟩
              clear hK K
              repeat (
                with_reducible refine wpQuiet_step (fun K hK => ?_)
                go_simp
                refine hK _ ?_
                clear hK K)
              with_reducible refine wpQuiet_step (fun K hK => ?_)
              go_simp
              apply Exists.intro
              refine ⟨fun p => ?_, hK _ ?_⟩
              exact (HL.out _ (HA1.out.to p.h)).mono fun e w5 ⟨he, hb⟩ => ⟨he, p.step (Nat.le_refl _) hb⟩
              clear hK K
              repeat (
                with_reducible refine wpQuiet_step (fun K hK => ?_)
                go_simp
                refine hK _ ?_
                clear hK K)
              refine wpQuiet_nil ?_
              rintro _ ⟨p, rfl⟩
              go_wp2_with fail
              go_roundw
              case rel => exact ⟨j + 1 + 1, by omega, by go_num, Hall, Hok, bthen (bthen hb.out Hb1.out) p.h⟩
              case measure => simp [intOf]; omega
            · have Hno : Hid ((l.all rightTab && tf (Dist Tb.id Tb.nm l)) = false) := by show _ = _; rw [tf_no (dist_no_nmT Hx.out hco), Bool.and_false]
              have hie : (idxI (l.findIdx? fun y => eqS y.nm x.nm) == ((j : Int) + 1)) = false := by have := idxI_eq (l.findIdx? fun y => eqS y.nm x.nm) (j + 1); rw [decide_eq_false hco] at this; simpa using this
              generalize idxI (l.findIdx? fun y => eqS y.nm x.nm) = z at HL hie
              clear hco
              go_wp2_with fail
              rw [Hw1.out]
              refine wp_region_below w1.heap.size (by kernel_rfl) (by kernel_rfl) ?_
              repeat (
                with_reducible refine wpQuiet_step (fun K hK => ?_)
                go_simp
                refine hK _ ?_
                clear hK K)
              with_reducible refine wpQuiet_step (fun K hK => ?_)
              go_simp
              apply Exists.intro
              refine ⟨fun p => ?_, hK _ ?_⟩
              exact (HC.out _ ((HA1.out.to p.h).2 x Hxm.out)).mono fun e w5 ⟨he, hb⟩ => ⟨he, p.step (Nat.le_refl _) hb⟩
              clear hK K
              repeat (
                with_reducible refine wpQuiet_step (fun K hK => ?_)
                go_simp
                refine hK _ ?_
                clear hK K)
              with_reducible refine wpQuiet_step (fun K hK => ?_)
              go_simp
              apply Exists.intro
              refine ⟨fun p => ?_, hK _ ?_⟩
              exact (HL.out _ (HA1.out.to p.h)).mono fun e w5 ⟨he, hb⟩ => ⟨he, p.step (Nat.le_refl _) hb⟩
              clear hK K
              repeat (
                with_reducible refine wpQuiet_step (fun K hK => ?_)
                go_simp
                refine hK _ ?_
                clear hK K)
              refine wpQuiet_nil ?_
              rintro _ ⟨p, rfl⟩
              go_wp2_with fail
              go_ret
              exact ⟨by rw [Hv.out, Hno.out]; rfl, bthen Hbw1.out p.h⟩
          · have Hno : Hid ((l.all rightTab && tf (Dist Tb.id Tb.nm l)) = false) := by show _ = _; rw [tf_no (dist_no_idT Hx.out Hy.out (of_decide_eq_true hd)), Bool.and_false]
            go_wp2_with fail
            rw [Hw1.out]
            refine wp_region_below w1.heap.size (by kernel_rfl) (by kernel_rfl) ?_
            repeat (
              with_reducible refine wpQuiet_step (fun K hK => ?_)
              go_simp
              refine hK _ ?_
              clear hK K)
            with_reducible refine wpQuiet_step (fun K hK => ?_)
            go_simp
            apply Exists.intro
            refine ⟨fun p => ?_, hK _ ?_⟩
            exact (HC.out _ ((HA1.out.to p.h).2 x Hxm.out)).mono fun e w5 ⟨he, hb⟩ => ⟨he, p.step (Nat.le_refl _) hb⟩
            clear hK K
            repeat (
              with_reducible refine wpQuiet_step (fun K hK => ?_)
              go_simp
              refine hK _ ?_
              clear hK K)
            refine wpQuiet_nil ?_
            rintro _ ⟨p, rfl⟩
            go_wp2_with fail
            go_ret
            exact ⟨by rw [Hv.out, Hno.out]; rfl, bthen Hbw1.out p.h⟩
    · have Hyes : Hid (rightCat l = true) := by
        show _ = _
        rw [Hv.out, tf_yes (show Dist Tb.id Tb.nm l from fun i hi => hok.out i (by omega)), all_at (fun j c hj => hall.out j c hj (by have := (List.getElem?_eq_some_iff.1 hj).1; omega))]; rfl
      go_wp2_with fail
      go_ret
      exact ⟨by rw [Hyes.out]; rfl, Hbw.out⟩
end Go.Proofs.YtlbdbaafmdikcaaGreatDoor
