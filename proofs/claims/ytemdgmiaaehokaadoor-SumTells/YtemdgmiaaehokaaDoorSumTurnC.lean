/-
  Contract of the law's own helper: a string of which some of four bytes side by side are turned.
-/
import Derived.Test.YtemdgmiaaehokaaDoorSumMixC
namespace Go.Proofs.YtemdgmiaaehokaaDoor
open Go.RowKit

/-- four bytes in the midst, the first i of them turned -/
def trn (p m x r : List UInt8) (i : Nat) : List UInt8 := p ++ ((List.zipWith (· ^^^ ·) (m.take i) (x.take i) ++ m.drop i) ++ r)
theorem trn_zero (p m x r : List UInt8) : trn p m x r 0 = p ++ (m ++ r) := by simp [trn]
theorem trn_length (p m x r : List UInt8) (i : Nat) (hm : m.length = 4) (hx : x.length = 4) (hi : i ≤ 4) : (trn p m x r i).length = p.length + (4 + r.length) := by
  simp [trn, hm, hx]; omega
theorem trn_at (p m x r : List UInt8) (i : Nat) (hm : m.length = 4) (hx : x.length = 4) (hi : i < 4) : (trn p m x r i)[p.length + i]? = some m[i] := by
  unfold trn
  rw [List.getElem?_append_right (by omega), Nat.add_sub_cancel_left, List.getElem?_append_left (by simp [hm, hx]; omega), List.getElem?_append_right (by simp [hm, hx]; omega)]
  simp [hm, hx, Nat.min_eq_left (Nat.le_of_lt hi)]
theorem trn_set (p m x r : List UInt8) (i : Nat) (hm : m.length = 4) (hx : x.length = 4) (hi : i < 4) : (trn p m x r i).set (p.length + i) (m[i] ^^^ x[i]) = trn p m x r (i + 1) := by
  unfold trn
  rw [List.set_append_right _ _ (by omega), Nat.add_sub_cancel_left, List.set_append_left _ _ (by simp [hm, hx]; omega), List.set_append_right _ _ (by simp [hm, hx]; omega)]
  have e1 : (List.zipWith (· ^^^ ·) (m.take i) (x.take i)).length = i := by simp [hm, hx]; omega
  rw [e1, Nat.sub_self, List.drop_eq_getElem_cons (by omega), List.set_cons_zero, List.take_succ_eq_append_getElem (by omega), List.take_succ_eq_append_getElem (by omega),
    List.zipWith_append (by simp [hm, hx]), List.zipWith_cons_cons, List.zipWith_nil_left, List.append_assoc (List.zipWith _ _ _) [m[i] ^^^ x[i]]]
  rfl
theorem trn_four (p m x r : List UInt8) (hm : m.length = 4) (hx : x.length = 4) : trn p m x r 4 = p ++ (List.zipWith (· ^^^ ·) m x ++ r) := by
  unfold trn
  rw [List.take_of_length_le (by omega), List.take_of_length_le (by omega), List.drop_eq_nil_of_le (by omega), List.append_nil]
theorem parts_of (l : List UInt8) (k : Nat) (h : k + 4 ≤ l.length) : ∃ p m r, l = p ++ (m ++ r) ∧ p.length = k ∧ m.length = 4 := by
  refine ⟨l.take k, (l.drop k).take 4, (l.drop k).drop 4, ?_, by simp; omega, by simp; omega⟩
  rw [List.take_append_drop, List.take_append_drop]

/-- a row of bytes that may be written, whatever its mark -/
def HasB (w : World) (g : Nat) (l : List UInt8) : Prop :=
  (∀ j (hj : j < l.length), w.cell? ⟨g, j, none⟩ = some (.int .u8 (l[j].toNat : Int))) ∧ ∀ j, j < l.length → w.frozen? ⟨g, j, none⟩ = false
theorem HasB.set {w : World} {g : Nat} {l : List UInt8} (h : HasB w g l) (k : Nat) (hk : k < l.length) (c : UInt8) (z : Int) (hz : z = (c.toNat : Int)) : HasB (w.setCell ⟨g, k, none⟩ (.int .u8 z)) g (l.set k c) := by
  subst hz
  refine ⟨fun j hj => ?_, fun j hj => ?_⟩
  · rw [List.length_set] at hj
    by_cases e : k = j
    · subst e
      rw [World.cell?_setCell_same _ _ _ (h.1 k hk)]; simp
    · rw [World.cell?_setCell_other _ _ _ _ (by intro e2; cases e2; exact e rfl), h.1 j hj, List.getElem_set_ne e]
  · rw [List.length_set] at hj
    rw [World.frozen?_setCell]; exact h.2 j hj
theorem HasB.new (w : World) (s : ByteArray) (cap : Nat) (hc : s.size ≤ cap) : HasB (w.drew.alloc (.cells (bytesRow s cap) 5 ((bytesRow s cap).size, (bytesRow s cap).size + 1))) w.heap.size (bs s) := by
  have hsz : (bytesRow s cap).size = cap := by unfold bytesRow; simp; have : s.data.size = s.size := rfl; omega
  refine ⟨fun j hj => ?_, fun j hj => ?_⟩
  · rw [bs_length] at hj
    have := World.cell?_alloc_mark w.drew (bytesRow s cap) 5 ((bytesRow s cap).size, (bytesRow s cap).size + 1) j
    refine this.trans ?_
    rw [bytesRow_at s cap j hj]
    simp [bs]
  · rw [bs_length] at hj
    have := World.frozen?_alloc_mark w.drew (bytesRow s cap) 5 (bytesRow s cap).size ((bytesRow s cap).size + 1) j
    refine this.trans ?_
    rw [hsz]; simp; omega
theorem run_string_has {w : World} {g cap n : Nat} {l : List UInt8} (h : HasB w g l) (hn : n = l.length) :
    (convert 46 9 (.slice (some ⟨g, 0, none⟩) n cap)).run Tryd.prog w = .ok (.string ⟨l.toArray⟩) w := by
  subst hn
  refine run_convert_bytes_back w 46 9 5 ⟨g, 0, none⟩ cap l Tryd.underlying46 Tryd.underlying5 Tryd.underlying9 fun j hj => ?_
  rw [Addr.add_lit, Nat.zero_add]
  exact h.1 j hj

/-- four bytes lie in a block -/
def Four (w : World) (B : Nat) (x : List UInt8) : Prop := ∀ j (hj : j < x.length), w.cell? ⟨B, j, none⟩ = some (.int .u8 (x[j].toNat : Int))

theorem bytes_of (w : World) (s : ByteArray) : ∃ cap w2, (convert 9 46 (.string s)).run Tryd.prog w = .ok (.slice (some ⟨w.heap.size, 0, none⟩) s.size cap) w2 ∧
    HasB w2 w.heap.size (bs s) ∧ Below w.heap.size w w2 ∧ w2.heap.size = w.heap.size + 1 := by
  refine ⟨_, _, run_bytes_of_string w 9 46 5 s Tryd.underlying9 Tryd.underlying46 Tryd.underlying5, HasB.new w s _ (grownCap_ge w s.size 0 5), ?_, ?_⟩
  · exact ((Below.refl w.heap.size w).drew).alloc (Nat.le_refl _) _
  · show (w.heap.push _).size = _
    simp

theorem turn_step {w : World} {g B : Nat} {p m x r : List UInt8} {k : Nat} (hh : HasB w g (trn p m x r k)) (hf : Four w B x) (hm : m.length = 4) (hx : x.length = 4) (hk : k < 4) :
    ∃ v y : UInt8, w.cell? ⟨g, p.length + k, none⟩ = some (.int .u8 (v.toNat : Int)) ∧ w.frozen? ⟨g, p.length + k, none⟩ = false ∧ w.cell? ⟨B, k, none⟩ = some (.int .u8 (y.toNat : Int)) ∧
      HasB (w.setCell ⟨g, p.length + k, none⟩ (.int .u8 ((v.toNat ^^^ y.toNat : Nat) : Int))) g (trn p m x r (k + 1)) := by
  obtain ⟨hj, hjv⟩ := List.getElem?_eq_some_iff.1 (trn_at p m x r k hm hx hk)
  refine ⟨m[k], x[k], ?_, hh.2 _ hj, hf k (by omega), ?_⟩
  · rw [hh.1 _ hj, hjv]
  · rw [← trn_set p m x r k hm hx hk]
    exact hh.set _ hj _ _ (by rw [UInt8.toNat_xor])
theorem Four.set {w : World} {B g j : Nat} {x : List UInt8} (h : Four w B x) (hg : g ≠ B) (v : Value) : Four (w.setCell ⟨g, j, none⟩ v) B x := fun i hi => by
  rw [World.cell?_setCell_other _ _ _ _ (by intro e; cases e; exact hg rfl)]; exact h i hi

set_option maxRecDepth 100000 in
set_option maxHeartbeats 800000 in
theorem turned_any (z : ByteArray) (at' : Nat) (x0 x1 x2 x3 : UInt8) (p m r : List UInt8) (w : World) (hz : z.size ≤ 1000000) (h4 : 4 ≤ z.size) (ha : at' < 65536)
    (hp : bs z = p ++ (m ++ r)) (hpl : p.length = at' % (z.size - 3)) (hm : m.length = 4) :
    Calls Tryd.prog 17 #[.string z, .int .u16 at', .agg #[.int .u8 x0.toNat, .int .u8 x1.toNat, .int .u8 x2.toNat, .int .u8 x3.toNat]] w
      fun e w' => e = .returned (.string ⟨(trn p m [x0, x1, x2, x3] r 4).toArray⟩) ∧ Below w.heap.size w w' := by
  obtain ⟨cap, w2, hconv, hhas, hb2, hsz2⟩ := bytes_of (w.alloc (.cells #[.int .u8 x0.toNat, .int .u8 x1.toNat, .int .u8 x2.toNat, .int .u8 x3.toNat] 39)) z
  have hfour : Four w2 w.heap.size [x0, x1, x2, x3] := fun j hj => by
    rw [hb2.cell (p := ⟨w.heap.size, j, none⟩) (by simp)]
    match j, hj with
    | 0, _ => simp
    | 1, _ => simp
    | 2, _ => simp
    | 3, _ => simp
  have hbw : Below w.heap.size w w2 := ((Below.refl _ _).alloc (Nat.le_refl _) _).trans (hb2.mono (by simp))
  simp only [World.size_alloc] at hconv hhas hsz2
  rw [hp, ← trn_zero p m [x0, x1, x2, x3] r] at hhas
  have hlen : z.size = p.length + (4 + r.length) := by rw [← bs_length, hp]; simp [hm]
  clear hb2 hp
  have Hf := Lib.hid hfour; clear hfour
  have Hh := Lib.hid hhas; clear hhas
  have hrem : (at' : Int) % ((z.size : Int) - 3) = ((p.length : Nat) : Int) := by
    rw [hpl, show (z.size : Int) - 3 = ((z.size - 3 : Nat) : Int) by omega]; rfl
  have hle : p.length + 4 ≤ z.size := by omega
  have Hlen := Lib.hid hlen; clear hlen
  clear hpl
  go_enter Tryd.func17, Tryd.ntmps17
  go_wp2_with fail
  simp only [hrem]
  go_loopw [9] (fun i wr => ∃ k : Nat, k ≤ 4 ∧ i = .int .i64 k ∧ HasB wr (w.heap.size + 1) (trn p m [x0, x1, x2, x3] r k) ∧ Four wr w.heap.size [x0, x1, x2, x3] ∧ Below w.heap.size w wr) (fun i _ => 4 - (intOf i).toNat)
  case atStart => exact ⟨0, by omega, rfl, Hh.out, Hf.out, hbw⟩
  case round =>
    obtain ⟨k, hk, rfl, hh, hf, hb⟩ := hrel
    by_cases hlt : k < 4
    · obtain ⟨v, y, hc1, hz1, hc2, hst⟩ := turn_step hh hf hm rfl hlt
      have hx := u8_xor_nat v.toNat y.toNat v.toNat_lt y.toNat_lt
      have Hst := Lib.hid hst; clear hst
      have Hh' := Lib.hid hh; clear hh
      have Hf' := Lib.hid hf; clear hf
      go_wp2_with fail
      go_region
      have R1 : HasB (wr.setCell ⟨w.heap.size + 1, p.length + k, none⟩ (.int .u8 ((v.toNat ^^^ y.toNat : Nat) : Int))).drew (w.heap.size + 1) (trn p m [x0, x1, x2, x3] r (k + 1)) := Hst.out
      have R2 : Four (wr.setCell ⟨w.heap.size + 1, p.length + k, none⟩ (.int .u8 ((v.toNat ^^^ y.toNat : Nat) : Int))).drew w.heap.size [x0, x1, x2, x3] := Hf'.out.set (by omega) _
      have R3 : Below w.heap.size w (wr.setCell ⟨w.heap.size + 1, p.length + k, none⟩ (.int .u8 ((v.toNat ^^^ y.toNat : Nat) : Int))).drew := (hb.setCell (by simp) _).drew
      generalize (wr.setCell ⟨w.heap.size + 1, p.length + k, none⟩ (.int .u8 ((v.toNat ^^^ y.toNat : Nat) : Int))).drew = w5 at *
      have R1' := Lib.hid R1; clear R1
      have R2' := Lib.hid R2; clear R2
      go_wp2
      go_roundw
      case rel => exact ⟨k + 1, by omega, by go_num, R1'.out, R2'.out, R3⟩
      case measure => simp [intOf]; omega
    · obtain rfl : k = 4 := by omega
      have hcv := run_string_has (cap := cap) hh (n := z.size) (by rw [Hlen.out, trn_length _ _ _ _ _ hm rfl (by omega)])
      have Hh' := Lib.hid hh; clear hh
      have Hf' := Lib.hid hf; clear hf
      go_wp2
      go_ret
      exact ⟨rfl, hb⟩

theorem turned_as (z t : ByteArray) (at' : Nat) (x0 x1 x2 x3 : UInt8) (p m r : List UInt8) (w : World) (hz : z.size ≤ 1000000) (h4 : 4 ≤ z.size) (ha : at' < 65536)
    (hp : bs z = p ++ (m ++ r)) (hpl : p.length = at' % (z.size - 3)) (hm : m.length = 4) (ht : bs t = p ++ (List.zipWith (· ^^^ ·) m [x0, x1, x2, x3] ++ r)) :
    Calls Tryd.prog 17 #[.string z, .int .u16 at', .agg #[.int .u8 x0.toNat, .int .u8 x1.toNat, .int .u8 x2.toNat, .int .u8 x3.toNat]] w
      fun e w' => e = .returned (.string t) ∧ Below w.heap.size w w' := by
  have := turned_any z at' x0 x1 x2 x3 p m r w hz h4 ha hp hpl hm
  rw [of_bs _ t (by rw [trn_four _ _ _ _ hm rfl]; exact ht)] at this; exact this
end Go.Proofs.YtemdgmiaaehokaaDoor
