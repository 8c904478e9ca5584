/-
  Rows of types (two cells an element) that a call makes by itself; the document's own list of all right types.
-/
import Derived.Test.YtlfjkbghgfljaaaDoorTypMath
import Derived.Test.YtlfjkbghgfljaaaDoorInts
namespace Go.Proofs.YtlfjkbghgfljaaaDoor
open Go.RowKit

theorem infoT : (Tryd.prog.info? 23).map (fun i => (i.zero, i.size, i.bytes)) = some (some (.agg #[.int .i64 0, .int .i64 0]), 2, 16) := by kernel_rfl
/-- types as cells -/
def PV : List (Int × Int) → List Value
  | [] => []
  | t :: r => Value.int .i64 t.1 :: Value.int .i64 t.2 :: PV r
theorem PV_append (a b : List (Int × Int)) : PV (a ++ b) = PV a ++ PV b := by
  induction a with
  | nil => rfl
  | cons x r ih => simp [PV, ih]
theorem PV_length (a : List (Int × Int)) : (PV a).length = a.length * 2 := by
  induction a with
  | nil => rfl
  | cons x r ih => simp [PV, ih]; omega
theorem PV_at (l : List (Int × Int)) (i : Nat) (t : Int × Int) (h : l[i]? = some t) : (PV l)[2 * i]? = some (.int .i64 t.1) ∧ (PV l)[2 * i + 1]? = some (.int .i64 t.2) := by
  induction l generalizing i with
  | nil => simp at h
  | cons x r ih =>
    cases i with
    | zero => simp at h; subst h; exact ⟨rfl, rfl⟩
    | succ i =>
      have := ih i (by simpa using h)
      rw [show 2 * (i + 1) = 2 * i + 1 + 1 by omega]
      simpa [PV] using this
theorem PV_one (l : List (Int × Int)) : ∀ u ∈ PV l, u.oneCell' = true := by
  induction l with
  | nil => intro u hu; cases hu
  | cons x r ih =>
    intro u hu
    simp [PV] at hu
    rcases hu with rfl | rfl | hu
    · rfl
    · rfl
    · exact ih u hu
/-- the slice value v is a row of the call's own, from block base on, and holds the types l -/
def OwnT (w : World) (base : Nat) (v : Value) (l : List (Int × Int)) : Prop := w.ownsRow base 23 2 v l.length (PV l)
theorem OwnT.below {w w' : World} {base : Nat} {v : Value} {l : List (Int × Int)} (h : OwnT w base v l) (hb : Below w.heap.size w w') : OwnT w' base v l := owns_below h hb
theorem OwnT.two (w : World) (base : Nat) (k m k2 m2 : Int) (hb : base ≤ w.heap.size) : OwnT (w.alloc (.cells #[.int .i64 k, .int .i64 m, .int .i64 k2, .int .i64 m2] 23)) base (.slice (some ⟨w.heap.size, 0, none⟩) 2 2) [(k, m), (k2, m2)] :=
  ⟨rfl, .inr ⟨w.heap.size, 2, _, rfl, hb, heap_alloc_new w _, Nat.le_refl _, by decide, rfl, rfl⟩⟩
theorem OwnT.form {w : World} {base : Nat} {v : Value} {l : List (Int × Int)} (h : OwnT w base v l) (hl : 0 < l.length) : ∃ g cap, v = .slice (some ⟨g, 0, none⟩) l.length cap ∧ base ≤ g ∧ g < w.heap.size ∧
    ∀ i t, l[i]? = some t → w.cell? ⟨g, 2 * i, none⟩ = some (.int .i64 t.1) ∧ w.cell? ⟨g, 2 * i + 1, none⟩ = some (.int .i64 t.2) := by
  rcases h.2 with ⟨h1, h2⟩ | ⟨g, cap, cur, h1, h2, h3, h4⟩
  · omega
  · subst h1
    refine ⟨g, cap, rfl, h2, (Array.getElem?_eq_some_iff.1 h3).1, fun i t hi => ?_⟩
    obtain ⟨q1, q2⟩ := PV_at l i t hi
    have r1 := World.ownsRow.cells h (g := g) rfl _ _ q1
    have r2 := World.ownsRow.cells h (g := g) rfl _ _ q2
    rw [Addr.add_lit, Nat.zero_add] at r1 r2
    exact ⟨r1, r2⟩
/-- two types appended -/
theorem wpList_append_two {w : World} {ops : Array Oper} {rest : List Oper} {o : Oper} {a : Act} {Q : Exit → Act → World → Prop} (hgd : o.guard = none) (s x : Operand)
    (ho : o.op = .call { callee := .builtin .append, args := #[s, x], argTypes := #[58, 58] })
    (base : Nat) (v : Value) (l : List (Int × Int)) (k m k2 m2 : Int)
    (hown : OwnT w base v l) (hs : a.eval s = v) (hx : a.eval x = .slice (some ⟨w.heap.size, 0, none⟩) 2 2) (hlen : l.length < 1000000) (hbase : base ≤ w.heap.size)
    (h : ∀ v' w', OwnT w' base v' (l ++ [(k, m), (k2, m2)]) → Below base w w' → wpList Tryd.prog ops Q rest (a.put o.dst v') w') :
    wpList Tryd.prog ops Q (o :: rest) a (w.alloc (.cells #[.int .i64 k, .int .i64 m, .int .i64 k2, .int .i64 m2] 23)) := by
  obtain ⟨i0, hi, hz0, hz1, hz2⟩ := info_parts infoT
  refine wpList_append_own _ hgd s x 58 ho base 23 i0 (.agg #[.int .i64 0, .int .i64 0]) 2 16 Tryd.underlying58 hi hz0 hz1 hz2 rfl (by decide) v l.length (PV l) hs (World.ownsRow.alloc hown _)
    ⟨w.heap.size, 0, none⟩ 2 2 (PV [(k, m), (k2, m2)]) hx rfl (fun j u hj => ?_) (PV_one _) (by unfold maxLen; omega) (by omega) (by simp; omega) ?_
  · match j, hj with
    | 0, hj => simp [PV] at hj; subst hj; simp [Addr.add]
    | 1, hj => simp [PV] at hj; subst hj; simp [Addr.add]
    | 2, hj => simp [PV] at hj; subst hj; simp [Addr.add]
    | 3, hj => simp [PV] at hj; subst hj; simp [Addr.add]
    | j + 4, hj => simp [PV] at hj
  · intro v' w' h1 h2 _
    refine h v' w' ?_ (((Below.refl base w).alloc hbase _).grown h2 (by simp; omega) (fun k hk => ?_))
    · unfold OwnT
      rw [PV_append, List.length_append]
      exact h1
    · exact ((World.ownsRow.lt hown) k hk).1

/-- all right types, up to Max k -/
def preT : Nat → List (Int × Int)
  | 0 => [(1, 0), (2, 0)]
  | k + 1 => preT k ++ [(3, ((k + 1 : Nat) : Int)), (4, ((k + 1 : Nat) : Int))]
def allT : List (Int × Int) := preT 120
theorem preT_length (k : Nat) : (preT k).length = 2 * k + 2 := by
  induction k with
  | zero => rfl
  | succ k ih => simp [preT, ih]; omega
set_option maxRecDepth 100000 in
set_option maxHeartbeats 800000 in
theorem rallT_any (w : World) : Calls Tryd.prog 33 #[] w fun e w' => ∃ v, e = .returned v ∧ OwnT w' w.heap.size v allT ∧ Below w.heap.size w w' := by
  go_enter Tryd.func33, Tryd.ntmps33
  go_wp2_with fail
  go_loopw [1, 2] (fun v i wr => ∃ k : Nat, k ≤ 120 ∧ i = .int .i64 ((k + 1 : Nat) : Int) ∧ Hid (OwnT wr w.heap.size v (preT k)) ∧ Below w.heap.size w wr) (fun _ i _ => 121 - (intOf i).toNat)
  case atStart => exact ⟨0, by omega, rfl, OwnT.two w _ 1 0 2 0 (Nat.le_refl _), by go_grown⟩
  case round =>
    obtain ⟨k, hk, rfl, ho, hb⟩ := hrel
    have hsz := hb.size
    by_cases h1 : k < 120
    · have d : decide (((k + 1 : Nat) : Int) ≤ 120) = true := by simp; omega
      have hl := preT_length k
      go_wp2_with (at_builtin; refine wpList_append_two rfl _ _ rfl w.heap.size _ (preT k) 3 ((k + 1 : Nat) : Int) 4 ((k + 1 : Nat) : Int) ho.out rfl rfl (by omega) hsz ?_; intro v' w2 ho2 hb2)
      go_roundw
      case rel => exact ⟨k + 1, by omega, by simp, ho2, hb.trans hb2⟩
      case measure => simp [intOf]; omega
    · have d : decide (((k + 1 : Nat) : Int) ≤ 120) = false := by simp; omega
      obtain rfl : k = 120 := by omega
      go_wp2_with fail
      go_ret
      exact ⟨_, rfl, ho.out, hb⟩
end Go.Proofs.YtlfjkbghgfljaaaDoor
