/-
  Texts that the proof needs, one behind the other: TypC, TypWideC, TypMath, TypFitC, TypTextMath, TypJoinC.
-/
import Derived.Handy
import Derived.Deep.RegionWith
import Derived.Test.YtebldfnocpcddaaGreatDoorPart1
import Derived.Test.YtebldfnocpcddaaGreatDoorPart5
import Derived.Test.YtebldfnocpcddaaGreatDoorPart4

/-
  Contracts of package typ: the small functions, Right and room; and of the document's own Right.
-/
namespace Go.Proofs.YtebldfnocpcddaaGreatDoor
open Go.RowKit

/-- a block of two cells that may be written -/
def Blk2 (w : World) (b : Nat) (x y : Value) : Prop := w.cell? ⟨b, 0, none⟩ = some x ∧ w.cell? ⟨b, 1, none⟩ = some y ∧ w.frozen? ⟨b, 0, none⟩ = false ∧ w.frozen? ⟨b, 1, none⟩ = false
theorem Blk2.new (w : World) (b : Nat) (x y : Value) (t : TypeId) (h : b = w.heap.size) : Blk2 (w.alloc (.cells #[x, y] t)) b x y := by
  subst h
  refine ⟨?_, ?_, ?_, ?_⟩ <;> simp
theorem Blk2.below {w w1 : World} {b B : Nat} {x y : Value} (h : Blk2 w b x y) (hb : Below B w w1) (hB : b < B) : Blk2 w1 b x y := by
  obtain ⟨c0, c1, f0, f1⟩ := h
  exact ⟨(hb.cell hB).trans c0, (hb.cell hB).trans c1, (hb.frozen hB).trans f0, (hb.frozen hB).trans f1⟩
theorem Blk2.alloc {w : World} {b : Nat} {x y : Value} (h : Blk2 w b x y) (hb : b < w.heap.size) (o : Obj) : Blk2 (w.alloc o) b x y := h.below ((Below.refl w.heap.size w).alloc (Nat.le_refl _) o) hb
theorem Blk2.set2 {w : World} {b : Nat} {x y x' y' : Value} (h : Blk2 w b x y) : Blk2 ((w.setCell ⟨b, 0, none⟩ x').setCell ⟨b, 1, none⟩ y') b x' y' := by
  obtain ⟨c0, c1, f0, f1⟩ := h
  have n01 : (⟨b, 0, none⟩ : Addr) ≠ ⟨b, 1, none⟩ := by simp
  refine ⟨?_, ?_, ?_, ?_⟩
  · rw [World.cell?_setCell_other _ _ _ _ n01.symm, World.cell?_setCell_same _ _ _ c0]
  · rw [World.cell?_setCell_same _ _ _ (by rw [World.cell?_setCell_other _ _ _ _ n01]; exact c1)]
  all_goals simpa only [World.frozen?_setCell]
theorem Blk3.new' (w : World) (b : Nat) (x y z : Value) (t : TypeId) (h : b = w.heap.size) : Blk3 (w.alloc (.cells #[x, y, z] t)) b x y z := by
  subst h; exact Blk3.new w x y z t
theorem results_t2 {fn : Func} {p u : Tmp} (h : fn.results = #[.cell p 23, .tmp u]) (tmps : Array Value) (w : World) {b : Nat} {x y : Value} (hp : tmps.getD p undef = .pointer (some ⟨b, 0, none⟩)) (hb : Blk2 w b x y) :
    (results fn tmps).run Tryz.prog w = .ok (.tuple #[.agg #[x, y], tmps.getD u undef]) w := by
  obtain ⟨c0, c1, _⟩ := hb
  have hp' : tmps[p]?.getD undef = .pointer (some ⟨b, 0, none⟩) := by simpa using hp
  simp [results, h, go_sem, hp', c0, c1]
theorem results_t3 {fn : Func} {p u v : Tmp} (h : fn.results = #[.cell p 23, .tmp u, .tmp v]) (tmps : Array Value) (w : World) {b : Nat} {x y : Value} (hp : tmps.getD p undef = .pointer (some ⟨b, 0, none⟩)) (hb : Blk2 w b x y) :
    (results fn tmps).run Tryz.prog w = .ok (.tuple #[.agg #[x, y], tmps.getD u undef, tmps.getD v undef]) w := by
  obtain ⟨c0, c1, _⟩ := hb
  have hp' : tmps[p]?.getD undef = .pointer (some ⟨b, 0, none⟩) := by simpa using hp
  simp [results, h, go_sem, hp', c0, c1]

/-- a type as the program has it -/
abbrev TT (k m : Int) : Value := .agg #[.int .i64 k, .int .i64 m]
def numK (k : Int) : Bool := (k == 1) || (k == 2)
def strK (k : Int) : Bool := (k == 3) || (k == 4)
def maxK (m : Int) : Bool := decide (1 ≤ m) && decide (m ≤ 120)
/-- is it a valid type? -/
def rightT (k m : Int) : Bool := bif numK k then (m == 0) else (strK k && maxK m)
/-- how many bytes a value of the type needs -/
def roomT (k m : Int) : Int := if k = 1 then 11 else if k = 2 then 20 else m

set_option maxHeartbeats 400000 in
theorem isnum_any (k : Int) (w : World) : Calls Tryz.prog 101 #[.int .i64 k] w fun e w' => e = .returned (.bool (numK k)) ∧ w = w' := by
  have Hv : Hid (numK k = ((k == 1) || (k == 2))) := rfl
  generalize h1 : (k == 1) = b1 at Hv
  generalize h2 : (k == 2) = b2 at Hv
  cases b1 <;> cases b2
  all_goals
    go_enter Tryz.func101, Tryz.ntmps101
    go_wp2_with fail
    go_ret
    exact ⟨by rw [Hv.out]; rfl, rfl⟩
set_option maxHeartbeats 400000 in
theorem isstr_any (k : Int) (w : World) : Calls Tryz.prog 92 #[.int .i64 k] w fun e w' => e = .returned (.bool (strK k)) ∧ w = w' := by
  have Hv : Hid (strK k = ((k == 3) || (k == 4))) := rfl
  generalize h1 : (k == 3) = b1 at Hv
  generalize h2 : (k == 4) = b2 at Hv
  cases b1 <;> cases b2
  all_goals
    go_enter Tryz.func92, Tryz.ntmps92
    go_wp2_with fail
    go_ret
    exact ⟨by rw [Hv.out]; rfl, rfl⟩
set_option maxHeartbeats 400000 in
theorem rmax_any (m : Int) (w : World) : Calls Tryz.prog 114 #[.int .i64 m] w fun e w' => e = .returned (.bool (maxK m)) ∧ w = w' := by
  have Hv : Hid (maxK m = (decide (1 ≤ m) && decide (m ≤ 120))) := rfl
  generalize h1 : decide (1 ≤ m) = b1 at Hv
  generalize h2 : decide (m ≤ 120) = b2 at Hv
  cases b1 <;> cases b2
  all_goals
    go_enter Tryz.func114, Tryz.ntmps114
    go_wp2_with fail
    go_ret
    exact ⟨by rw [Hv.out]; rfl, rfl⟩
theorem roomT_cases (k m : Int) : (k = 1 ∧ roomT k m = 11) ∨ (k = 2 ∧ roomT k m = 20) ∨ ((k == 1) = false ∧ (k == 2) = false ∧ roomT k m = m) := by
  unfold roomT
  by_cases h1 : k = 1
  · exact .inl ⟨h1, if_pos h1⟩
  · by_cases h2 : k = 2
    · exact .inr (.inl ⟨h2, by rw [if_neg h1, if_pos h2]⟩)
    · exact .inr (.inr ⟨by simpa using h1, by simpa using h2, by rw [if_neg h1, if_neg h2]⟩)
set_option maxHeartbeats 800000 in
theorem tright_any (k m : Int) (w : World) : Calls Tryz.prog 91 #[TT k m] w fun e w' => e = .returned (.bool (rightT k m)) ∧ Below w.heap.size w w' := by
  have HN := Lib.hid (fun w => isnum_any k w)
  have HS := Lib.hid (fun w => isstr_any k w)
  have HM := Lib.hid (fun w => rmax_any m w)
  have Hv : Hid (rightT k m = bif numK k then (m == 0) else (strK k && maxK m)) := rfl
  generalize numK k = a at HN Hv
  generalize strK k = b at HS Hv
  generalize maxK m = c at HM Hv
  generalize hz : (m == 0) = z at Hv
  cases a
  · cases b
    · go_enter Tryz.func91, Tryz.ntmps91
      go_wp2_with fail
      refine (HN.out _).mono ?_
      rintro e w1 ⟨rfl, rfl⟩
      go_wp2_with fail
      refine (HS.out _).mono ?_
      rintro e w1 ⟨rfl, rfl⟩
      go_wp2_with fail
      go_ret
      exact ⟨by rw [Hv.out]; rfl, by go_grown⟩
    · go_enter Tryz.func91, Tryz.ntmps91
      go_wp2_with fail
      refine (HN.out _).mono ?_
      rintro e w1 ⟨rfl, rfl⟩
      go_wp2_with fail
      refine (HS.out _).mono ?_
      rintro e w1 ⟨rfl, rfl⟩
      go_wp2_with fail
      refine (HM.out _).mono ?_
      rintro e w1 ⟨rfl, rfl⟩
      go_wp2_with fail
      go_ret
      exact ⟨by rw [Hv.out]; rfl, by go_grown⟩
  · go_enter Tryz.func91, Tryz.ntmps91
    go_wp2_with fail
    refine (HN.out _).mono ?_
    rintro e w1 ⟨rfl, rfl⟩
    go_wp2_with fail
    go_ret
    exact ⟨by rw [Hv.out]; rfl, by go_grown⟩
set_option maxHeartbeats 1600000 in
theorem trright_any (k m : Int) (w : World) : Calls Tryz.prog 25 #[TT k m] w fun e w' => e = .returned (.bool (rightT k m)) ∧ Below w.heap.size w w' := by
  have Hv : Hid (rightT k m = bif ((k == 1) || (k == 2)) then (m == 0) else (((k == 3) || (k == 4)) && (decide (1 ≤ m) && decide (m ≤ 120)))) := rfl
  generalize hz : (m == 0) = z at Hv
  generalize h1 : (k == 1) = b1 at Hv
  generalize h2 : (k == 2) = b2 at Hv
  generalize h3 : (k == 3) = b3 at Hv
  generalize h4 : (k == 4) = b4 at Hv
  generalize h5 : decide (1 ≤ m) = b5 at Hv
  generalize h6 : decide (m ≤ 120) = b6 at Hv
  cases b1
  · cases b2
    · cases b3 <;> cases b4 <;> cases b5
      all_goals
        go_enter Tryz.func25, Tryz.ntmps25
        go_wp2_with fail
        go_ret
        exact ⟨by rw [Hv.out]; rfl, by go_grown⟩
    · go_enter Tryz.func25, Tryz.ntmps25
      go_wp2_with fail
      go_ret
      exact ⟨by rw [Hv.out]; rfl, by go_grown⟩
  · go_enter Tryz.func25, Tryz.ntmps25
    go_wp2_with fail
    go_ret
    exact ⟨by rw [Hv.out]; rfl, by go_grown⟩
end Go.Proofs.YtebldfnocpcddaaGreatDoor

/-
  Contracts of package typ's Wide and of the document's own.
-/
namespace Go.Proofs.YtebldfnocpcddaaGreatDoor
open Go.RowKit

/-- two types of the call's own in their boxes, the first things that the call made -/
def Bx (w w1 : World) (x y x2 y2 : Value) : Prop := Blk2 w1 w.heap.size x y ∧ Blk2 w1 (w.heap.size + 1) x2 y2 ∧ w.heap.size + 1 < w1.heap.size ∧ Below w.heap.size w w1
theorem Bx.new (w : World) (x y x2 y2 : Value) (t t2 : TypeId) : Bx w ((w.alloc (.cells #[x, y] t)).alloc (.cells #[x2, y2] t2)) x y x2 y2 :=
  ⟨(Blk2.new w _ x y t rfl).alloc (by simp) _, Blk2.new _ _ x2 y2 t2 (by simp), by simp, ((Below.refl _ _).alloc (Nat.le_refl _) _).alloc (by simp) _⟩
theorem Bx.step {w w1 w2 : World} {x y x2 y2 : Value} (h : Bx w w1 x y x2 y2) (hb : Below w1.heap.size w1 w2) : Bx w w2 x y x2 y2 := by
  obtain ⟨a, b, c, d⟩ := h
  have := hb.size
  exact ⟨a.below hb (by omega), b.below hb c, by omega, d.trans (hb.mono (by omega))⟩

theorem below_of_same {P : Program} {f : FuncId} {args : Array Value} {w : World} {v : Ending} (h : Calls P f args w fun e w' => e = v ∧ w = w') : Calls P f args w fun e w' => e = v ∧ Below w.heap.size w w' :=
  h.mono fun _ _ ⟨he, hw⟩ => ⟨he, hw ▸ Below.refl _ _⟩

/-- is the first as wide as the second? -/
def wideT (k m k2 m2 : Int) : Bool := rightT k m && rightT k2 m2 && decide (k2 ≤ k) && (numK k || decide (roomT k2 m2 ≤ m))
end Go.Proofs.YtebldfnocpcddaaGreatDoor

/-
  The mathematics of column types: which are valid, which as wide as which, the least above two.
-/
namespace Go.Proofs.YtebldfnocpcddaaGreatDoor

theorem numK_iff (k : Int) : numK k = true ↔ k = 1 ∨ k = 2 := by simp [numK]
theorem strK_iff (k : Int) : strK k = true ↔ k = 3 ∨ k = 4 := by simp [strK]
theorem maxK_iff (m : Int) : maxK m = true ↔ 1 ≤ m ∧ m ≤ 120 := by simp [maxK]
theorem rightT_iff (k m : Int) : rightT k m = true ↔ ((k = 1 ∨ k = 2) ∧ m = 0) ∨ ((k = 3 ∨ k = 4) ∧ 1 ≤ m ∧ m ≤ 120) := by
  unfold rightT
  by_cases h : numK k = true
  · rw [h]
    rw [numK_iff] at h
    simp
    omega
  · have h' : numK k = false := by simpa using h
    rw [h']
    rw [numK_iff] at h
    simp only [cond_false, Bool.and_eq_true, strK_iff, maxK_iff]
    omega
theorem wideT_iff (k m k2 m2 : Int) : wideT k m k2 m2 = true ↔ rightT k m = true ∧ rightT k2 m2 = true ∧ k2 ≤ k ∧ ((k = 1 ∨ k = 2) ∨ roomT k2 m2 ≤ m) := by
  unfold wideT
  simp only [Bool.and_eq_true, Bool.or_eq_true, numK_iff, decide_eq_true_eq, and_assoc]
theorem roomT_spec (k m : Int) : (k = 1 → roomT k m = 11) ∧ (k = 2 → roomT k m = 20) ∧ (k ≠ 1 → k ≠ 2 → roomT k m = m) := by
  unfold roomT
  refine ⟨fun h => if_pos h, fun h => by rw [if_neg (by omega), if_pos h], fun h1 h2 => by rw [if_neg h1, if_neg h2]⟩
theorem bool_eq {a b : Bool} (h : a = true ↔ b = true) : a = b := by
  cases a <;> cases b <;> simp_all

/-- the document's own way -/
def rwideT (k m k2 m2 : Int) : Bool := bif k2 == 1 then (decide (k ≤ 2) || decide (11 ≤ m)) else bif k2 == 2 then ((k == 2) || (decide (2 < k) && decide (20 ≤ m))) else bif k2 == 3 then (decide (3 ≤ k) && decide (m2 ≤ m)) else ((k == 4) && decide (m2 ≤ m))
theorem rwideT_eq (k m k2 m2 : Int) (h1 : rightT k m = true) (h2 : rightT k2 m2 = true) : rwideT k m k2 m2 = wideT k m k2 m2 := by
  apply bool_eq
  rw [wideT_iff]
  have r := roomT_spec k2 m2
  simp only [h1, h2, true_and]
  rw [rightT_iff] at h1 h2
  unfold rwideT
  rcases h2 with ⟨h2 | h2, e2⟩ | ⟨h2 | h2, e2⟩
  all_goals
    subst h2
    simp
    simp at r
    omega

/-- to be as wide is an order -/
theorem wide_refl (k m : Int) : wideT k m k m = rightT k m := by
  apply bool_eq
  rw [wideT_iff]
  have r := roomT_spec k m
  constructor
  · exact fun h => h.1
  · intro h
    refine ⟨h, h, by omega, ?_⟩
    rw [rightT_iff] at h
    omega
theorem wide_anti (k m k2 m2 : Int) (h1 : wideT k m k2 m2 = true) (h2 : wideT k2 m2 k m = true) : k = k2 ∧ m = m2 := by
  rw [wideT_iff] at h1 h2
  obtain ⟨a, b, c, d⟩ := h1
  obtain ⟨_, _, c', d'⟩ := h2
  have r1 := roomT_spec k m
  have r2 := roomT_spec k2 m2
  rw [rightT_iff] at a b
  omega
theorem wide_trans (k m k2 m2 k3 m3 : Int) (h1 : wideT k m k2 m2 = true) (h2 : wideT k2 m2 k3 m3 = true) : wideT k m k3 m3 = true := by
  rw [wideT_iff] at h1 h2 ⊢
  obtain ⟨a, b, c, d⟩ := h1
  obtain ⟨_, b', c', d'⟩ := h2
  have r2 := roomT_spec k2 m2
  have r3 := roomT_spec k3 m3
  refine ⟨a, b', by omega, ?_⟩
  rw [rightT_iff] at a b b'
  omega
theorem wide_right {k m k2 m2 : Int} (h : wideT k m k2 m2 = true) : rightT k m = true ∧ rightT k2 m2 = true := by
  rw [wideT_iff] at h
  exact ⟨h.1, h.2.1⟩

/-- the least above two -/
def joinK (k k2 : Int) : Int := if k2 ≤ k then k else k2
def joinM (k m k2 m2 : Int) : Int := if numK (joinK k k2) = true then 0 else max (roomT k m) (roomT k2 m2)
theorem join_spec (k m k2 m2 : Int) (h1 : rightT k m = true) (h2 : rightT k2 m2 = true) :
    wideT (joinK k k2) (joinM k m k2 m2) k m = true ∧ wideT (joinK k k2) (joinM k m k2 m2) k2 m2 = true ∧
    ∀ k3 m3, wideT k3 m3 k m = true → wideT k3 m3 k2 m2 = true → wideT k3 m3 (joinK k k2) (joinM k m k2 m2) = true := by
  have r1 := roomT_spec k m
  have r2 := roomT_spec k2 m2
  have hj : (k2 ≤ k ∧ joinK k k2 = k) ∨ (k < k2 ∧ joinK k k2 = k2) := by
    unfold joinK
    split <;> omega
  have hm : ((joinK k k2 = 1 ∨ joinK k k2 = 2) ∧ joinM k m k2 m2 = 0) ∨ (¬ (joinK k k2 = 1 ∨ joinK k k2 = 2) ∧ joinM k m k2 m2 = max (roomT k m) (roomT k2 m2)) := by
    unfold joinM
    by_cases h : numK (joinK k k2) = true
    · exact .inl ⟨(numK_iff _).1 h, if_pos h⟩
    · exact .inr ⟨fun h' => h ((numK_iff _).2 h'), if_neg h⟩
  generalize joinK k k2 = j at hj hm ⊢
  generalize joinM k m k2 m2 = n at hm ⊢
  have r3 := roomT_spec j n
  have q1 := (rightT_iff k m).1 h1
  have q2 := (rightT_iff k2 m2).1 h2
  have hr : rightT j n = true := by
    rw [rightT_iff]
    omega
  refine ⟨?_, ?_, ?_⟩
  · rw [wideT_iff]
    exact ⟨hr, h1, by omega, by omega⟩
  · rw [wideT_iff]
    exact ⟨hr, h2, by omega, by omega⟩
  · intro k3 m3 a b
    rw [wideT_iff] at a b ⊢
    obtain ⟨a1, _, a3, a4⟩ := a
    obtain ⟨_, _, b3, b4⟩ := b
    have q3 := (rightT_iff k3 m3).1 a1
    exact ⟨a1, hr, by omega, by omega⟩
theorem join_right (k m k2 m2 : Int) (h1 : rightT k m = true) (h2 : rightT k2 m2 = true) : rightT (joinK k k2) (joinM k m k2 m2) = true := (wide_right (join_spec k m k2 m2 h1 h2).1).1
end Go.Proofs.YtebldfnocpcddaaGreatDoor

/-
  Contracts of package typ's Fits and of the document's own.
-/
namespace Go.Proofs.YtebldfnocpcddaaGreatDoor
open Go.RowKit

def BxTV (w w1 : World) (x y a b c : Value) : Prop := Blk2 w1 w.heap.size x y ∧ Blk3 w1 (w.heap.size + 1) a b c ∧ w.heap.size + 1 < w1.heap.size ∧ Below w.heap.size w w1
theorem BxTV.new (w : World) (x y a b c : Value) (t t2 : TypeId) : BxTV w ((w.alloc (.cells #[x, y] t)).alloc (.cells #[a, b, c] t2)) x y a b c :=
  ⟨(Blk2.new w _ x y t rfl).alloc (by simp) _, Blk3.new' _ _ a b c t2 (by simp), by simp, ((Below.refl _ _).alloc (Nat.le_refl _) _).alloc (by simp) _⟩
theorem BxTV.step {w w1 w2 : World} {x y a b c : Value} (h : BxTV w w1 x y a b c) (hb : Below w1.heap.size w1 w2) : BxTV w w2 x y a b c := by
  obtain ⟨h1, h2, h3, h4⟩ := h
  have := hb.size
  exact ⟨h1.below hb (by omega), h2.below hb h3, by omega, h4.trans (hb.mono (by omega))⟩
/-- does the value fit the type? -/
def fitT (k m k' n : Int) (s : ByteArray) : Bool := rightT k m && rightV k' n (bs s) && (k' == k) && decide ((s.size : Int) ≤ m)
def rfitT (k m k' n : Int) (s : ByteArray) : Bool := rightT k m && rightV k' n (bs s) && (k' == k) && (decide (k < 3) || decide ((s.size : Int) ≤ m))
theorem rightV_num {k n : Int} {l : List UInt8} (h : rightV k n l = true) (hk : k = 1 ∨ k = 2) : l = [] := by
  unfold rightV at h
  rcases hk with rfl | rfl <;> simp at h
  · exact h.2
  · exact h
theorem rfitT_eq (k m k' n : Int) (s : ByteArray) : rfitT k m k' n s = fitT k m k' n s := by
  apply bool_eq
  unfold rfitT fitT
  simp only [Bool.and_eq_true, Bool.or_eq_true, decide_eq_true_eq, beq_iff_eq]
  constructor
  · rintro ⟨⟨⟨h1, h2⟩, rfl⟩, h4⟩
    refine ⟨⟨⟨h1, h2⟩, rfl⟩, ?_⟩
    rcases h4 with h4 | h4
    · rw [rightT_iff] at h1
      have := rightV_num h2 (by omega)
      have hl := bs_length s
      rw [this] at hl
      simp at hl
      omega
    · exact h4
  · rintro ⟨h, h4⟩
    exact ⟨h, .inr h4⟩
end Go.Proofs.YtebldfnocpcddaaGreatDoor

/-
  The mathematics of a type's text: what is read at the beginning of a text, and that what is written is read back.
-/
namespace Go.Proofs.YtebldfnocpcddaaGreatDoor

def nmI : List UInt8 := [105, 110, 116]
def nmL : List UInt8 := [108, 111, 110, 103]
def nmT : List UInt8 := [116, 101, 120, 116]
def nmB : List UInt8 := [98, 121, 116, 101, 115]
/-- the kind of a name, or 0 -/
def kindL (l : List UInt8) : Nat := if l = nmI then 1 else if l = nmL then 2 else if l = nmT then 3 else if l = nmB then 4 else 0
theorem kindL_cases (l : List UInt8) : (l = nmI ∧ kindL l = 1) ∨ (l = nmL ∧ kindL l = 2) ∨ (l = nmT ∧ kindL l = 3) ∨ (l = nmB ∧ kindL l = 4) ∨ (l ≠ nmI ∧ l ≠ nmL ∧ l ≠ nmT ∧ l ≠ nmB ∧ kindL l = 0) := by
  by_cases h1 : l = nmI
  · subst h1; exact .inl ⟨rfl, by decide⟩
  by_cases h2 : l = nmL
  · subst h2; exact .inr (.inl ⟨rfl, by decide⟩)
  by_cases h3 : l = nmT
  · subst h3; exact .inr (.inr (.inl ⟨rfl, by decide⟩))
  by_cases h4 : l = nmB
  · subst h4; exact .inr (.inr (.inr (.inl ⟨rfl, by decide⟩)))
  exact .inr (.inr (.inr (.inr ⟨h1, h2, h3, h4, by unfold kindL; rw [if_neg h1, if_neg h2, if_neg h3, if_neg h4]⟩)))

/-- the Max at the beginning of a text, its length, 0 or the error -/
def rmax2 (l : List UInt8) (z : Int) (k e : Nat) : Int × Nat × Nat :=
  if e = 0 then (if l[1 + k]? = some 41 then (if maxK z = true then (z, k + 2, 0) else (0, 0, 10)) else (0, 0, 5)) else (0, 0, e)
def rmaxW (l : List UInt8) : Int × Nat × Nat := if l[0]? = some 40 then rmax2 l (numW (l.drop 1)).1 (numW (l.drop 1)).2.1 (numW (l.drop 1)).2.2 else (0, 0, 5)
theorem rmaxW_no {l : List UInt8} (h : l[0]? ≠ some 40) : rmaxW l = (0, 0, 5) := if_neg h
theorem rmaxW_yes {l : List UInt8} {z : Int} {k e : Nat} (h : l[0]? = some 40) (hn : numW (l.drop 1) = (z, k, e)) : rmaxW l = rmax2 l z k e := by
  unfold rmaxW
  rw [if_pos h, hn]
theorem rmaxW_ok {l : List UInt8} {z : Int} {k : Nat} (h : rmaxW l = (z, k, 0)) : 1 ≤ z ∧ z ≤ 120 ∧ k ≤ l.length := by
  unfold rmaxW at h
  split at h
  · obtain ⟨⟨z', k', e'⟩, hn⟩ : ∃ r, numW (l.drop 1) = r := ⟨_, rfl⟩
    rw [hn] at h
    unfold rmax2 at h
    simp only at h
    split at h
    · split at h
      · split at h
        · rename_i h1 h2 h3
          cases h
          rw [maxK_iff] at h3
          obtain ⟨hl, _⟩ := List.getElem?_eq_some_iff.1 h2
          exact ⟨h3.1, h3.2, by omega⟩
        · cases h
      · cases h
    · rename_i h1
      have : e' = 0 := by cases h; rfl
      exact absurd this h1
  · cases h
/-- the type at the beginning of a text, its length, 0 or the error -/
def readT2 (n c : Nat) (m : Int) (k e : Nat) : (Int × Int) × Nat × Nat := if e = 0 then (((c : Int), m), n + k, 0) else ((0, 0), 0, e)
def readT (l : List UInt8) : (Int × Int) × Nat × Nat :=
  if kindL (l.take (rdN l)) = 1 then ((1, 0), rdN l, 0) else if kindL (l.take (rdN l)) = 2 then ((2, 0), rdN l, 0) else if kindL (l.take (rdN l)) = 0 then ((0, 0), 0, 5) else
    readT2 (rdN l) (kindL (l.take (rdN l))) (rmaxW (l.drop (rdN l))).1 (rmaxW (l.drop (rdN l))).2.1 (rmaxW (l.drop (rdN l))).2.2
theorem readT_1 {l : List UInt8} (h : kindL (l.take (rdN l)) = 1) : readT l = ((1, 0), rdN l, 0) := if_pos h
theorem readT_2 {l : List UInt8} (h : kindL (l.take (rdN l)) = 2) : readT l = ((2, 0), rdN l, 0) := by unfold readT; rw [if_neg (by omega), if_pos h]
theorem readT_0 {l : List UInt8} (h : kindL (l.take (rdN l)) = 0) : readT l = ((0, 0), 0, 5) := by unfold readT; rw [if_neg (by omega), if_neg (by omega), if_pos h]
theorem readT_s {l : List UInt8} {c : Nat} {m : Int} {k e : Nat} (h : kindL (l.take (rdN l)) = c) (hc : c = 3 ∨ c = 4) (hr : rmaxW (l.drop (rdN l)) = (m, k, e)) : readT l = readT2 (rdN l) c m k e := by
  unfold readT
  rw [if_neg (by omega), if_neg (by omega), if_neg (by omega), h, hr]
def parseT2 (l : List UInt8) (t : Int × Int) (k e : Nat) : (Int × Int) × Nat := if e = 0 then (if k < l.length then ((0, 0), 6) else (t, 0)) else ((0, 0), e)
def parseT (l : List UInt8) : (Int × Int) × Nat := parseT2 l (readT l).1 (readT l).2.1 (readT l).2.2
theorem parseT_eq {l : List UInt8} {t : Int × Int} {k e : Nat} (h : readT l = (t, k, e)) : parseT l = parseT2 l t k e := by unfold parseT; rw [h]
theorem readT_err {l : List UInt8} {t : Int × Int} {k e : Nat} (h : readT l = (t, k, e)) (he : e ≠ 0) : t = (0, 0) ∧ k = 0 := by
  unfold readT readT2 at h
  split at h
  · cases h; exact absurd rfl he
  · split at h
    · cases h; exact absurd rfl he
    · split at h
      · cases h; exact ⟨rfl, rfl⟩
      · split at h
        · cases h; exact absurd rfl he
        · cases h; exact ⟨rfl, rfl⟩

/-- the text of a type -/
def prT (k m : Int) : List UInt8 := if k = 1 then nmI else if k = 2 then nmL else if k = 3 then nmT ++ (40 :: (dz m ++ [41])) else nmB ++ (40 :: (dz m ++ [41]))
theorem runN_app (l : List UInt8) (r : List UInt8) (h : ∀ x ∈ l, isN x = true) : runN (l ++ (40 :: r)) = l.length := by
  refine runN_eq (c := 40) (fun x hx => ?_) (by simp) (by decide)
  rw [List.take_left] at hx
  exact h x hx
theorem print_readT {k m : Int} (hr : rightT k m = true) : readT (prT k m) = ((k, m), (prT k m).length, 0) := by
  rw [rightT_iff] at hr
  have str : ∀ (nm : List UInt8) (c : Nat), (∀ x ∈ nm, isN x = true) → (∃ a r, nm = a :: r ∧ isL a = true) → kindL nm = c → (c = 3 ∨ c = 4) → 1 ≤ m → m ≤ 120 →
      readT (nm ++ (40 :: (dz m ++ [41]))) = (((c : Int), m), (nm ++ (40 :: (dz m ++ [41]))).length, 0) := by
    intro nm c hn hl hk hc h1 h2
    have hrd : rdN (nm ++ (40 :: (dz m ++ [41]))) = nm.length := by
      obtain ⟨a, r, e, hL⟩ := hl
      rw [rdN_cons (c := a) (by rw [e]; rfl), if_pos hL]
      exact runN_app _ _ hn
    have ht : (nm ++ (40 :: (dz m ++ [41]))).take (rdN (nm ++ (40 :: (dz m ++ [41])))) = nm := by rw [hrd, List.take_left]
    have hd : (nm ++ (40 :: (dz m ++ [41]))).drop (rdN (nm ++ (40 :: (dz m ++ [41])))) = 40 :: (dz m ++ [41]) := by rw [hrd, List.drop_left]
    have hnum : numW ((40 :: (dz m ++ [41])).drop 1) = (m, (dz m).length, 0) := num_dz (by omega) (by omega) (fun x hx => by simp at hx; subst hx; decide)
    have hmx : rmaxW (40 :: (dz m ++ [41])) = (m, (dz m).length + 2, 0) := by
      rw [rmaxW_yes (by rfl) hnum]
      unfold rmax2
      rw [if_pos rfl, if_pos, if_pos ((maxK_iff m).2 ⟨h1, h2⟩)]
      rw [Nat.add_comm, List.getElem?_cons_succ, List.getElem?_append_right (Nat.le_refl _), Nat.sub_self]
      rfl
    have hmx' : rmaxW ((nm ++ (40 :: (dz m ++ [41]))).drop (rdN (nm ++ (40 :: (dz m ++ [41]))))) = (m, (dz m).length + 2, 0) := by rw [hd]; exact hmx
    rw [readT_s (c := c) (by rw [ht]; exact hk) hc hmx', hrd]
    unfold readT2
    rw [if_pos rfl]
    simp
  rcases hr with ⟨rfl | rfl, rfl⟩ | ⟨rfl | rfl, h1, h2⟩
  · decide
  · decide
  · exact str nmT 3 (by decide) ⟨_, _, rfl, by decide⟩ (by decide) (.inl rfl) h1 h2
  · exact str nmB 4 (by decide) ⟨_, _, rfl, by decide⟩ (by decide) (.inr rfl) h1 h2
theorem print_parseT {k m : Int} (hr : rightT k m = true) : parseT (prT k m) = ((k, m), 0) := by
  rw [parseT_eq (print_readT hr)]
  unfold parseT2
  rw [if_pos rfl, if_neg (by omega)]
theorem prT_len {k m : Int} (hr : rightT k m = true) : (prT k m).length ≤ 30 := by
  rw [rightT_iff] at hr
  have hd : 1 ≤ m ∧ m ≤ 120 → (dz m).length ≤ 20 := fun h => dz_len m (by omega) (by omega)
  rcases hr with ⟨rfl | rfl, rfl⟩ | ⟨rfl | rfl, h⟩
  · decide
  · decide
  · have := hd h
    simp [prT, nmT]; omega
  · have := hd h
    simp [prT, nmB]; omega
end Go.Proofs.YtebldfnocpcddaaGreatDoor

/-
  The contract of package typ's Join.
-/
namespace Go.Proofs.YtebldfnocpcddaaGreatDoor
open Go.RowKit

/-- two types in their boxes, and the result's block -/
def BxJ (w w1 : World) (x y x2 y2 p q : Value) : Prop := Blk2 w1 w.heap.size x y ∧ Blk2 w1 (w.heap.size + 1) x2 y2 ∧ Blk2 w1 (w.heap.size + 2) p q ∧ w.heap.size + 2 < w1.heap.size ∧ Below w.heap.size w w1
theorem BxJ.new (w : World) (x y x2 y2 p q : Value) (t t2 t3 : TypeId) : BxJ w (((w.alloc (.cells #[x, y] t)).alloc (.cells #[x2, y2] t2)).alloc (.cells #[p, q] t3)) x y x2 y2 p q := by
  have b1 : Below w.heap.size w (w.alloc (.cells #[x, y] t)) := (Below.refl _ _).alloc (Nat.le_refl _) _
  have b2 : Below w.heap.size w ((w.alloc (.cells #[x, y] t)).alloc (.cells #[x2, y2] t2)) := b1.alloc (by simp) _
  have b3 : Below w.heap.size w (((w.alloc (.cells #[x, y] t)).alloc (.cells #[x2, y2] t2)).alloc (.cells #[p, q] t3)) := b2.alloc (by simp; omega) _
  refine ⟨((Blk2.new w _ x y t rfl).alloc (by simp) _).alloc (by simp; omega) _, (Blk2.new _ _ x2 y2 t2 (by simp)).alloc (by simp) _, Blk2.new _ _ p q t3 (by simp), by simp, b3⟩
theorem Blk2.drew {w : World} {b : Nat} {x y : Value} (h : Blk2 w b x y) : Blk2 w.drew b x y := h.below ((Below.refl (b + 1) w).drew) (by omega)
theorem BxJ.step {w w1 w2 : World} {x y x2 y2 p q : Value} (h : BxJ w w1 x y x2 y2 p q) (hb : Below w1.heap.size w1 w2) : BxJ w w2 x y x2 y2 p q := by
  obtain ⟨h1, h2, h3, h4, h5⟩ := h
  have := hb.size
  exact ⟨h1.below hb (by omega), h2.below hb (by omega), h3.below hb h4, by omega, h5.trans (hb.mono (by omega))⟩
/-- what Join returns -/
def jR (v : Value) (b : Bool) : Value := .tuple #[v, .bool b]
def joinR (k m k2 m2 : Int) : Value :=
  bif rightT k m then bif rightT k2 m2 then bif decide (k2 ≤ k) then bif numK k then jR (TT k 0) true else jR (TT k (max (roomT k m) (roomT k2 m2))) true
    else bif numK k2 then jR (TT k2 0) true else jR (TT k2 (max (roomT k m) (roomT k2 m2))) true
  else jR (TT 0 0) false else jR (TT 0 0) false
theorem joinR_yes (k m k2 m2 : Int) (h1 : rightT k m = true) (h2 : rightT k2 m2 = true) : joinR k m k2 m2 = jR (TT (joinK k k2) (joinM k m k2 m2)) true := by
  unfold joinR joinM joinK
  rw [h1, h2]
  by_cases h : k2 ≤ k
  · have d : decide (k2 ≤ k) = true := by simpa using h
    rw [d, if_pos h]
    cases numK k <;> rfl
  · have d : decide (k2 ≤ k) = false := by simpa using h
    rw [d, if_neg h]
    cases numK k2 <;> rfl
theorem joinR_no (k m k2 m2 : Int) (h : rightT k m = false ∨ rightT k2 m2 = false) : joinR k m k2 m2 = jR (TT 0 0) false := by
  unfold joinR
  rcases h with h | h
  · rw [h]; rfl
  · rw [h]; cases rightT k m <;> rfl
end Go.Proofs.YtebldfnocpcddaaGreatDoor
