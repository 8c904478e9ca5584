/-
  Rows of bytes of the call's own, among them the full row of a constant's bytes, which bears a mark; contracts of package value's printBytes and of the document's own hex.
-/
import Derived.Test.YtgoefndbpfhhaaaDoorNameQuoC
import Derived.Test.YtgoefndbpfhhaaaDoorValHexMath
import Derived.Lib.SlBytesConst
namespace Go.Proofs.YtgoefndbpfhhaaaDoor
open Go.RowKit

/-- the slice value v is a row of the call's own, from block base on, and holds the bytes l; a row that is full may bear a mark -/
def OwnM (w : World) (base : Nat) (v : Value) (l : List UInt8) : Prop :=
  OwnB w base v l ∨ ∃ g, v = .slice (some ⟨g, 0, none⟩) l.length l.length ∧ base ≤ g ∧ ∀ j (hj : j < l.length), w.cell? ⟨g, j, none⟩ = some (.int .u8 (l[j].toNat : Int))
theorem B8_at {l : List UInt8} {j : Nat} {u : Value} (h : (B8 l)[j]? = some u) : ∃ hj : j < l.length, u = .int .u8 (l[j].toNat : Int) := by
  unfold B8 at h
  rw [List.getElem?_map] at h
  cases hl : l[j]? with
  | none => rw [hl] at h; cases h
  | some c =>
    rw [hl] at h
    obtain ⟨hj, hc⟩ := List.getElem?_eq_some_iff.1 hl
    subst hc
    cases h
    exact ⟨hj, rfl⟩
theorem run_append_M {w : World} {base : Nat} {v : Value} {l : List UInt8} (h : OwnM w base v l) (b m c : Nat) (ds : List UInt8) (hm : m = ds.length) (h0 : 0 < m) (hnews : ∀ j (hj : j < ds.length), w.cell? ⟨b, j, none⟩ = some (.int .u8 (ds[j].toNat : Int)))
    (hlen : l.length + m ≤ 1099511627776) (hbase : base ≤ w.heap.size) (ty : TypeId) :
    ∃ v' w', (Builtin.append_ #[66, 66] ty #[v, .slice (some ⟨b, 0, none⟩) m c]).run Tryd.prog w = .ok v' w' ∧ OwnB w' base v' (l ++ ds) ∧ Below base w w' := by
  subst hm
  obtain ⟨i0, hi, hz0, hz1, hz2⟩ := info_parts info8
  have hn : ∀ j u, (B8 ds)[j]? = some u → w.cell? ((⟨b, 0, none⟩ : Addr).add j) = some u := fun j u hj => by
    obtain ⟨h1, rfl⟩ := B8_at hj
    rw [Addr.add_lit, Nat.zero_add]
    exact hnews j h1
  rcases h with h | ⟨g, rfl, hg, hcells⟩
  · obtain ⟨v', w', hrun, h1, h2, _⟩ := run_append_own (P := Tryd.prog) w base 66 ty 5 i0 (.int .u8 0) 1 1 Tryd.underlying66 hi hz0 hz1 hz2 rfl (by decide) v l.length (B8 l) h ⟨b, 0, none⟩ ds.length c (B8 ds) (by rw [B8_length, Nat.mul_one]) hn
      (fun u hu => by unfold B8 at hu; obtain ⟨x, _, rfl⟩ := List.mem_map.1 hu; rfl) (by unfold maxLen; omega) (by omega) hbase
    refine ⟨v', w', hrun, ?_, (Below.refl base w).grown h2 hbase (fun k hk => ((World.ownsRow.lt h) k hk).1)⟩
    unfold OwnB
    rw [B8_append, List.length_append]
    exact h1
  · have hr := run_append_grow (P := Tryd.prog) w 66 ty 5 i0 (.int .u8 0) Tryd.underlying66 hi hz0 ⟨g, 0, none⟩ l.length l.length (B8 l) (by rw [B8_length, hz1, Nat.mul_one])
      (fun j u hj => by
        obtain ⟨h1, rfl⟩ := B8_at hj
        rw [Addr.add_lit, Nat.zero_add]
        exact hcells j h1)
      ⟨b, 0, none⟩ ds.length c (B8 ds) (by rw [B8_length, hz1, Nat.mul_one]) hn (by omega) (by omega) (by
        have := nextslicecap_le (need := l.length + ds.length) (old := l.length) (by omega)
        rw [hz2, Nat.mul_one]; omega)
    have hge := grownCap_ge w (l.length + ds.length) l.length 5
    have hcm := grownCap_le_maxLen w (l.length + ds.length) l.length 5 (by unfold maxLen; omega)
    refine ⟨_, _, hr, ⟨by rw [B8_length, List.length_append, Nat.mul_one], .inr ⟨w.heap.size, _, _, by rw [List.length_append], hbase, heap_alloc_new w.drew _, by rw [List.length_append]; exact hge, hcm, ?_, ?_⟩⟩, ?_⟩
    · simp only [Array.size_append, List.size_toArray, size_zeroCells, B8_length, Nat.mul_one]
      show _ + _ * 1 = _
      omega
    · rw [B8_append]
      simp only [Array.toList_append]
      have e : (l ++ ds).length * 1 = (B8 l ++ B8 ds).length := by rw [List.length_append, List.length_append, B8_length, B8_length, Nat.mul_one]
      rw [e]
      exact List.take_left
    · exact ((Below.refl base w).drew).alloc hbase _
/-- bytes appended, as one step of a region that draws -/
theorem step_append_M {w : World} {ops : Array Oper} {o : Oper} {a : Act} {K : Act → World → Prop} {Q : Exit → Act → World → Prop} {E : Prop} (hgd : o.guard = none) (s x : Operand)
    (ho : o.op = .call { callee := .builtin .append, args := #[s, x], argTypes := #[66, 66] })
    (base : Nat) (v : Value) (l ds : List UInt8) (b m : Nat)
    (hown : OwnM w base v l) (hs : a.eval s = v) (hx : a.eval x = .slice (some ⟨b, 0, none⟩) m m) (hm : m = ds.length) (h0 : 0 < m)
    (hnews : ∀ j (hj : j < ds.length), w.cell? ⟨b, j, none⟩ = some (.int .u8 (ds[j].toNat : Int))) (hlen : l.length + m ≤ 1099511627776) (hbase : base ≤ w.heap.size)
    (h : ∀ v' w', OwnB w' base v' (l ++ ds) → Below base w w' → K (a.put o.dst v') w') :
    if Region.wanted o (yielded ops a.tmps) = true then Oper.wp Tryd.prog o a w K Q else E := by
  have hw : Region.wanted o (yielded ops a.tmps) = true := by simp [Region.wanted, hgd]
  rw [if_pos hw]
  obtain ⟨v', w', hrun, h1, h2⟩ := run_append_M hown b m m ds hm h0 hnews hlen hbase o.type
  unfold Oper.wp
  simp [execOp, ho, resolve, invoke, builtin, hs, hx, hrun, Result.andThen]
  exact h v' w' h1 h2
/-- the same, one behind the other -/
theorem wpList_append_M {w : World} {ops : Array Oper} {rest : List Oper} {o : Oper} {a : Act} {Q : Exit → Act → World → Prop} (hgd : o.guard = none) (s x : Operand)
    (ho : o.op = .call { callee := .builtin .append, args := #[s, x], argTypes := #[66, 66] })
    (base : Nat) (v : Value) (l ds : List UInt8) (b m : Nat)
    (hown : OwnM w base v l) (hs : a.eval s = v) (hx : a.eval x = .slice (some ⟨b, 0, none⟩) m m) (hm : m = ds.length) (h0 : 0 < m)
    (hnews : ∀ j (hj : j < ds.length), w.cell? ⟨b, j, none⟩ = some (.int .u8 (ds[j].toNat : Int))) (hlen : l.length + m ≤ 1099511627776) (hbase : base ≤ w.heap.size)
    (h : ∀ v' w', OwnB w' base v' (l ++ ds) → Below base w w' → wpList Tryd.prog ops Q rest (a.put o.dst v') w') :
    wpList Tryd.prog ops Q (o :: rest) a w := by
  have hw : Region.wanted o (yielded ops a.tmps) = true := by simp [Region.wanted, hgd]
  have hst := step_append_M (ops := ops) (Q := Q) (E := False) hgd s x ho base v l ds b m hown hs hx hm h0 hnews hlen hbase h
  unfold wpList
  rw [if_pos hw] at hst ⊢
  exact .inl hst
/-- two bytes appended, as one step of a region that draws -/
theorem step_append_M2 {w : World} {ops : Array Oper} {o : Oper} {a : Act} {K : Act → World → Prop} {Q : Exit → Act → World → Prop} {E : Prop} (hgd : o.guard = none) (s x : Operand)
    (ho : o.op = .call { callee := .builtin .append, args := #[s, x], argTypes := #[66, 66] })
    (base : Nat) (v : Value) (l : List UInt8) (c d : UInt8) (b : Nat) (z y : Int)
    (hown : OwnM w base v l) (hs : a.eval s = v) (hx : a.eval x = .slice (some ⟨b, 0, none⟩) 2 2) (hz : z = (c.toNat : Int)) (hy : y = (d.toNat : Int))
    (hcell : w.cell? ⟨b, 0, none⟩ = some (.int .u8 z)) (hcell2 : w.cell? ⟨b, 1, none⟩ = some (.int .u8 y)) (hlen : l.length + 2 ≤ 1099511627776) (hbase : base ≤ w.heap.size)
    (h : ∀ v' w', OwnB w' base v' (l ++ [c, d]) → Below base w w' → K (a.put o.dst v') w') :
    if Region.wanted o (yielded ops a.tmps) = true then Oper.wp Tryd.prog o a w K Q else E := by
  subst hz hy
  refine step_append_M hgd s x ho base v l [c, d] b 2 hown hs hx rfl (by decide) (fun j hj => ?_) hlen hbase h
  match j, hj with
  | 0, _ => exact hcell
  | 1, _ => exact hcell2
/-- one byte appended, one behind the other -/
theorem wpList_append_M1 {w : World} {ops : Array Oper} {rest : List Oper} {o : Oper} {a : Act} {Q : Exit → Act → World → Prop} (hgd : o.guard = none) (s x : Operand)
    (ho : o.op = .call { callee := .builtin .append, args := #[s, x], argTypes := #[66, 66] })
    (base : Nat) (v : Value) (l : List UInt8) (c : UInt8) (b : Nat) (z : Int)
    (hown : OwnM w base v l) (hs : a.eval s = v) (hx : a.eval x = .slice (some ⟨b, 0, none⟩) 1 1) (hz : z = (c.toNat : Int))
    (hcell : w.cell? ⟨b, 0, none⟩ = some (.int .u8 z)) (hlen : l.length + 1 ≤ 1099511627776) (hbase : base ≤ w.heap.size)
    (h : ∀ v' w', OwnB w' base v' (l ++ [c]) → Below base w w' → wpList Tryd.prog ops Q rest (a.put o.dst v') w') :
    wpList Tryd.prog ops Q (o :: rest) a w := by
  subst hz
  refine wpList_append_M hgd s x ho base v l [c] b 1 hown hs hx rfl (by decide) (fun j hj => ?_) hlen hbase h
  match j, hj with
  | 0, _ => exact hcell
/-- the row survives what is made behind it -/
theorem OwnM.alloc {w : World} {base : Nat} {v : Value} {l : List UInt8} (h : OwnM w base v l) (o : Obj) : OwnM (w.alloc o) base v l := by
  rcases h with h | ⟨g, rfl, hg, hc⟩
  · exact .inl (h.alloc o)
  · refine .inr ⟨g, rfl, hg, fun j hj => Lib.cell?_alloc_marked o (hc j hj)⟩
theorem OwnM.drew {w : World} {base : Nat} {v : Value} {l : List UInt8} (h : OwnM w base v l) : OwnM w.drew base v l := h

theorem and15 (c : UInt8) : bits BinOp.and IntKind.u8 (c.toNat : Int) 15 = (c.toNat : Int) % 16 := by
  have h : ∀ k : Fin 256, bits BinOp.and IntKind.u8 (k.1 : Int) 15 = (k.1 : Int) % 16 := by decide +kernel
  exact h ⟨c.toNat, c.toNat_lt⟩
set_option maxRecDepth 100000 in
set_option maxHeartbeats 1600000 in
theorem printBytes_any (s : ByteArray) (w : World) (hs : s.size ≤ 1000000) : Calls Tryd.prog 43 #[.string s] w fun e w' => e = .returned (.string ⟨(120 :: 34 :: (hxs (bs s) ++ [34])).toArray⟩) ∧ Below w.heap.size w w' := by
  have kc := fun (w : World) (C : Array Value) (n c : Nat) => Lib.run_convert_bytes_const (P := Tryd.prog) w 66 5 C n c Tryd.underlying66 Tryd.underlying5
  go_enter Tryd.func43, Tryd.ntmps43
  go_wp2_with fail
  clear kc
  go_loopw [3, 9] (fun v i wr => ∃ k : Nat, k ≤ s.size ∧ i = .int .i64 k ∧ Hid (OwnM wr w.heap.size v (120 :: 34 :: hxs ((bs s).take k))) ∧ Below w.heap.size w wr) (fun _ i _ => s.size - (intOf i).toNat)
  case atStart =>
    refine ⟨0, by omega, rfl, ?_, (Below.refl _ _).alloc (Nat.le_refl _) _⟩
    refine .inr ⟨w.heap.size, rfl, Nat.le_refl _, fun j hj => ?_⟩
    have hj' : j < 2 := hj
    rw [World.cell?_alloc_mark]
    match j, hj' with
    | 0, _ => rfl
    | 1, _ => rfl
  case round =>
    obtain ⟨k, hk, rfl, ho, hb⟩ := hrel
    have hsz := hb.size
    by_cases hlt : k < s.size
    · have Hat := Lib.hid (bs_at s k hlt)
      have hl1 : (120 :: 34 :: hxs ((bs s).take k)).length + 2 ≤ 1099511627776 := by
        have h3 := List.length_take_le k (bs s)
        rw [List.length_cons, List.length_cons, hxs_len]; omega
      have Hl := Lib.hid hl1; clear hl1
      have hc : s[k].toNat < 256 := s[k].toNat_lt
      have b1 : (0 : Int) ≤ (s[k].toNat : Int) % 16 := by omega
      have b2 : (s[k].toNat : Int) % 16 < 16 := by omega
      have b3 : (0 : Int) ≤ (s[k].toNat : Int) / 16 := by omega
      have b4 : (s[k].toNat : Int) / 16 < 16 := by omega
      have c1 : s[k].toNat / 16 < 16 := by omega
      have c2 : s[k].toNat % 16 < 16 := by omega
      have hand := and15 s[k]
      have Ho := Lib.hid ho.out.drew
      have Hn : Hid ((120 :: 34 :: hxs ((bs s).take k)) ++ [dgs[s[k].toNat / 16]'c1, dgs[s[k].toNat % 16]'c2] = 120 :: 34 :: hxs ((bs s).take (k + 1))) := by
        show _ = _
        rw [take_at Hat.out, hxs_snoc, dgs_at _ c1, dgs_at _ c2]; rfl
      unfold dgs at Hn
      go_wp2_with fail
      go_region_law (refine step_append_M2 rfl (.tmp 12) (.tmp 23) rfl w.heap.size _ _ ((⟨#[48, 49, 50, 51, 52, 53, 54, 55, 56, 57, 97, 98, 99, 100, 101, 102]⟩ : ByteArray)[s[k].toNat / 16]'c1) ((⟨#[48, 49, 50, 51, 52, 53, 54, 55, 56, 57, 97, 98, 99, 100, 101, 102]⟩ : ByteArray)[s[k].toNat % 16]'c2) wr.heap.size _ _ (Ho.out.alloc _) (by simp [Act.eval]) (by simp [Act.eval]) rfl rfl (by simp; rfl) (by simp; rfl) Hl.out (by simp; omega) ?_; intro v1 w1 ho1 hb1)
      all_goals (
        have R1 : OwnB w1 w.heap.size v1 (120 :: 34 :: hxs ((bs s).take (k + 1))) := by rw [← Hn.out]; exact ho1
        have R2 := ((hb.alloc hsz _).drew).trans hb1
        clear hb1 ho1
        go_wp2
        go_roundw
        case rel => exact ⟨k + 1, by omega, by go_num, .inl R1, R2⟩
        case measure => simp [intOf]; omega)
    · have Hk : Hid ((bs s).take k = bs s) := by show _ = _; rw [List.take_of_length_le (by rw [bs_length]; omega)]
      rw [Hk.out] at ho
      have hl1 : (120 :: 34 :: hxs (bs s)).length + 1 ≤ 1099511627776 := by
        have h3 := bs_length s
        rw [List.length_cons, List.length_cons, hxs_len]; omega
      have Hl := Lib.hid hl1; clear hl1
      have ho1 := ho.out
      go_wp2_with (at_builtin; refine wpList_append_M1 rfl _ _ rfl w.heap.size _ _ 34 wr.heap.size 34 (ho1.alloc _) rfl rfl rfl (by simp) Hl.out (by simp; omega) ?_; intro v' w2 ho2 hb2; have hcv := run_string_own ho2 w2 (fun _ => rfl); clear ho2)
      go_ret
      exact ⟨rfl, (hb.alloc hsz _).trans hb2⟩

set_option maxRecDepth 100000 in
set_option maxHeartbeats 1600000 in
theorem rhex_any (s : ByteArray) (w : World) (hs : s.size ≤ 1000000) : Calls Tryd.prog 45 #[.string s] w fun e w' => e = .returned (.string ⟨(hxs (bs s)).toArray⟩) ∧ Drew w w' := by
  go_enter Tryd.func45, Tryd.ntmps45
  go_wp2_with fail
  go_loopw [3, 4] (fun v i wr => ∃ (k : Nat) (t : ByteArray), k ≤ s.size ∧ i = .int .i64 k ∧ v = .string t ∧ Hid (bs t = hxs ((bs s).take k)) ∧ Hid (Drew w wr)) (fun _ i _ => s.size - (intOf i).toNat)
  case atStart => exact ⟨0, ⟨#[]⟩, by omega, rfl, rfl, rfl, Drew.refl _⟩
  case round =>
    obtain ⟨k, t, hk, rfl, rfl, ht, hb⟩ := hrel
    have htl : t.size ≤ 2 * k := by
      have h3 := List.length_take_le k (bs s)
      rw [← bs_length, ht.out, hxs_len]; omega
    by_cases hlt : k < s.size
    · have Hat := Lib.hid (bs_at s k hlt)
      have hc : s[k].toNat < 256 := s[k].toNat_lt
      have b1 : (0 : Int) ≤ (s[k].toNat : Int) % 16 := by omega
      have b2 : (s[k].toNat : Int) % 16 < 16 := by omega
      have b3 : (0 : Int) ≤ (s[k].toNat : Int) / 16 := by omega
      have b4 : (s[k].toNat : Int) / 16 < 16 := by omega
      have c1 : s[k].toNat / 16 < 16 := by omega
      have c2 : s[k].toNat % 16 < 16 := by omega
      have Hn : Hid (bs (t ++ dgs.extract (s[k].toNat / 16) (s[k].toNat / 16 + 1) ++ dgs.extract (s[k].toNat % 16) (s[k].toNat % 16 + 1)) = hxs ((bs s).take (k + 1))) := by
        show _ = _
        rw [bs_append, bs_append, ht.out, dgs_cut _ c1, dgs_cut _ c2, take_at Hat.out, hxs_snoc, List.append_assoc]; rfl
      unfold dgs at Hn
      go_wp2_with fail
      have hts : t.size + 1 ≤ 9223372036854775807 := by omega
      go_quiet (fail)
      go_wp2
      go_roundw
      case rel => exact ⟨k + 1, _, by omega, by go_num, rfl, Hn.out, hb.out.more _⟩
      case measure => simp [intOf]; omega
    · have Hn : Hid (t = ⟨(hxs (bs s)).toArray⟩) := by
        show _ = _
        refine bs_eq ?_
        rw [ht.out, List.take_of_length_le (by rw [bs_length]; omega)]
        exact (bs_mk _).symm
      go_wp2
      go_ret
      exact ⟨congrArg (fun x => Ending.returned (.string x)) Hn.out, hb.out⟩
end Go.Proofs.YtgoefndbpfhhaaaDoor
