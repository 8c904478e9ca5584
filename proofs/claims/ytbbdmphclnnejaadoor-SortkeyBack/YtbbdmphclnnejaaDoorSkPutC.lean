/-
  Contracts of package sortkey: topBit, appendNumber, appendString, appendKey.
-/
import Derived.Test.YtbbdmphclnnejaaDoorSkBitMath
import Derived.Test.YtbbdmphclnnejaaDoorSkRows
namespace Go.Proofs.YtbbdmphclnnejaaDoor
open Go.RowKit

theorem topBit4 (w : World) : Calls Tryd.prog 47 #[.int .i64 4] w fun e w' => e = .returned (.int .u64 2147483648) ∧ w = w' := by
  go_enter Tryd.func47, Tryd.ntmps47
  go_wp2
  go_ret
  exact ⟨rfl, rfl⟩
theorem topBit8 (w : World) : Calls Tryd.prog 47 #[.int .i64 8] w fun e w' => e = .returned (.int .u64 9223372036854775808) ∧ w = w' := by
  go_enter Tryd.func47, Tryd.ntmps47
  go_wp2
  go_ret
  exact ⟨rfl, rfl⟩

set_option maxRecDepth 100000 in
set_option maxHeartbeats 400000 in
theorem appNum_any (v : Value) (l : List UInt8) (B : Nat) (n : Int) (size T W : Nat) (w : World) (hT : ∀ w, Calls Tryd.prog 47 #[.int .i64 size] w fun e w' => e = .returned (.int .u64 T) ∧ w = w')
    (hx : bits .xor .u64 (IntKind.u64.wrap n) (T : Int) = (W : Int)) (hown : OwnB w B v l) (hB : B ≤ w.heap.size) (hl : l.length ≤ 1000000) (hsz : size ≤ 8) :
    Calls Tryd.prog 34 #[v, .int .i64 n, .int .i64 size] w fun e w' => ∃ v', e = .returned v' ∧ OwnB w' B v' (l ++ be size W) ∧ Below B w w' := by
  have HT := Lib.hid hT; clear hT
  have HO := Lib.hid hown; clear hown
  go_enter Tryd.func34, Tryd.ntmps34
  go_wp2_with (go_at_call 47; refine (HT.out _).mono ?_; rintro e w1 ⟨rfl, rfl⟩)
  go_loopw [0, 8] (fun v i wr => ∃ (k : Nat) (z : Int), k ≤ size ∧ z = (k : Int) - 1 ∧ i = .int .i64 z ∧ Hid (OwnB wr B v (l ++ (be size W).take (size - k))) ∧ Below B w wr) (fun _ i _ => (intOf i + 1).toNat)
  case atStart =>
    refine ⟨size, _, Nat.le_refl _, rfl, rfl, ?_, Below.refl _ _⟩
    show OwnB _ _ _ _
    rw [Nat.sub_self, List.take_zero, List.append_nil]
    exact HO.out
  case round =>
    obtain ⟨k, z, hk, hz, rfl, ho, hb⟩ := hrel
    have hsz2 := hb.size
    by_cases h0 : 0 < k
    · obtain ⟨j, rfl⟩ : ∃ j, k = j + 1 := ⟨k - 1, by omega⟩
      obtain rfl : z = (j : Int) := by omega
      clear hz
      have Ht := Lib.hid (be_take size W j (by omega))
      have Hs := Lib.hid (shr_byte W j)
      have Hlen : Hid ((l ++ (be size W).take (size - (j + 1))).length < 1099511627776) := by
        show _ < _
        rw [List.length_append, List.length_take]; omega
      go_wp2_with (at_builtin; refine wpList_append_byte rfl _ _ rfl B _ (l ++ (be size W).take (size - (j + 1))) (UInt8.ofNat (W / 256 ^ j % 256)) _ ho.out rfl rfl Hs.out Hlen.out (by omega) ?_; intro v' w2 ho2 hb2)
      go_roundw
      case rel => exact ⟨j, _, by omega, rfl, rfl, by show OwnB _ _ _ _; rw [Ht.out, ← List.append_assoc]; exact ho2, hb.trans hb2⟩
      case measure => simp [intOf]
    · obtain rfl : k = 0 := by omega
      obtain rfl : z = -1 := by omega
      clear hz
      go_wp2
      go_ret
      refine ⟨_, rfl, ?_, hb⟩
      have := ho.out
      rw [Nat.sub_zero, List.take_of_length_le (by rw [be_length]; omega)] at this
      exact this

theorem esc_append : ∀ (a b : List UInt8), esc (a ++ b) = esc a ++ esc b
  | [], b => rfl
  | c :: r, b => by
    have ih := esc_append r b
    by_cases h : c = 0 <;> simp [esc, h, ih]
theorem esc_len : ∀ l : List UInt8, (esc l).length ≤ 2 * l.length
  | [] => by simp [esc]
  | c :: r => by
    have ih := esc_len r
    by_cases h : c = 0 <;> simp [esc, h] <;> omega
theorem esc_at0 {l : List UInt8} {k : Nat} {c : UInt8} (h : l[k]? = some c) (hc : c = 0) : esc (l.take (k + 1)) = esc (l.take k) ++ [c] ++ [255] := by
  obtain ⟨h1, rfl⟩ := List.getElem?_eq_some_iff.1 h
  rw [List.take_succ_eq_append_getElem h1, esc_append, hc]; simp [esc]
theorem esc_at1 {l : List UInt8} {k : Nat} {c : UInt8} (h : l[k]? = some c) (hc : c ≠ 0) : esc (l.take (k + 1)) = esc (l.take k) ++ [c] := by
  obtain ⟨h1, rfl⟩ := List.getElem?_eq_some_iff.1 h
  rw [List.take_succ_eq_append_getElem h1, esc_append]; simp [esc, hc]
/-- two bytes appended -/
theorem wpList_append_byte2 {w : World} {ops : Array Oper} {rest : List Oper} {o : Oper} {a : Act} {Q : Exit → Act → World → Prop} (hgd : o.guard = none) (s x : Operand)
    (ho : o.op = .call { callee := .builtin .append, args := #[s, x], argTypes := #[48, 48] })
    (base : Nat) (v : Value) (l : List UInt8) (c d : UInt8) (z y : Int)
    (hown : OwnB w base v l) (hs : a.eval s = v) (hx : a.eval x = .slice (some ⟨w.heap.size, 0, none⟩) 2 2) (hz : z = (c.toNat : Int)) (hy : y = (d.toNat : Int)) (hlen : l.length < 1099511627000) (hbase : base ≤ w.heap.size)
    (h : ∀ v' w', OwnB w' base v' (l ++ [c, d]) → Below base w w' → wpList Tryd.prog ops Q rest (a.put o.dst v') w') :
    wpList Tryd.prog ops Q (o :: rest) a (w.alloc (.cells #[.int .u8 z, .int .u8 y] 5)) := by
  subst hz hy
  obtain ⟨i0, hi, hz0, hz1, hz2⟩ := info_parts info8
  refine wpList_append_own _ hgd s x 48 ho base 5 i0 (.int .u8 0) 1 1 Tryd.underlying48 hi hz0 hz1 hz2 rfl (by decide) v l.length (B8 l) hs (World.ownsRow.alloc hown _)
    ⟨w.heap.size, 0, none⟩ 2 2 [.int .u8 (c.toNat : Int), .int .u8 (d.toNat : Int)] hx rfl (fun j u hj => ?_) (fun u hu => ?_) (by unfold maxLen; omega) (by omega) (by simp; omega) ?_
  · match j, hj with
    | 0, hj => simp at hj; subst hj; simp [Addr.add]
    | 1, hj => simp at hj; subst hj; simp [Addr.add]
    | j + 2, hj => simp at hj
  · simp at hu; rcases hu with rfl | rfl <;> rfl
  · intro v' w' h1 h2 _
    refine h v' w' ?_ (((Below.refl base w).alloc hbase _).grown h2 (by simp; omega) (fun k hk => ?_))
    · unfold OwnB
      rw [B8_append, List.length_append]
      exact h1
    · exact ((World.ownsRow.lt hown) k hk).1
theorem u8_zero {c : UInt8} (h : c.toNat = 0) : c = 0 := UInt8.toNat_inj.1 h
theorem u8_nonzero {c : UInt8} (h : ¬ c.toNat = 0) : c ≠ 0 := fun e => h (by rw [e]; rfl)

set_option maxRecDepth 100000 in
set_option maxHeartbeats 800000 in
theorem appStr_any (v : Value) (l : List UInt8) (B : Nat) (s : ByteArray) (w : World) (hown : OwnB w B v l) (hB : B ≤ w.heap.size) (hl : l.length ≤ 1000000) (hs : s.size ≤ 1000000) :
    Calls Tryd.prog 35 #[v, .string s] w fun e w' => ∃ v', e = .returned v' ∧ OwnB w' B v' (l ++ (esc (bs s) ++ [0, 0])) ∧ Below B w w' := by
  have HO := Lib.hid hown; clear hown
  go_enter Tryd.func35, Tryd.ntmps35
  go_wp2_with fail
  go_loopw [0, 8] (fun v i wr => ∃ k : Nat, k ≤ s.size ∧ i = .int .i64 k ∧ Hid (OwnB wr B v (l ++ esc ((bs s).take k))) ∧ Below B w wr) (fun _ i _ => s.size - (intOf i).toNat)
  case atStart =>
    refine ⟨0, by omega, rfl, ?_, Below.refl _ _⟩
    show OwnB _ _ _ _
    rw [List.take_zero, esc, List.append_nil]
    exact HO.out
  case round =>
    obtain ⟨k, hk, rfl, ho, hb⟩ := hrel
    have hsz2 := hb.size
    have Hlen : Hid ((l ++ esc ((bs s).take k)).length < 100000000) := by
      show _ < _
      have h1 := esc_len ((bs s).take k)
      have h2 := List.length_take_le k (bs s)
      rw [List.length_append]; omega
    by_cases hlt : k < s.size
    · have Hat := Lib.hid (bs_at s k hlt)
      by_cases hc : s[k].toNat = 0
      · have He := Lib.hid (esc_at0 Hat.out (u8_zero hc))
        have d : ((s[k].toNat : Int) == 0) = true := by simp [hc]
        clear hc
        have L1 : Hid ((l ++ esc ((bs s).take k)).length < 1099511627776) := Nat.lt_trans Hlen.out (by decide)
        have L2 : Hid ((l ++ esc ((bs s).take k) ++ [s[k]]).length < 1099511627776) := by
          show _ < _
          have h1 := Hlen.out
          have e : ∀ q : List UInt8, (q ++ [s[k]]).length = q.length + 1 := fun q => by simp
          rw [e]; omega
        go_wp2_with (at_builtin; first
          | (refine wpList_append_byte rfl _ _ rfl B _ (l ++ esc ((bs s).take k)) s[k] _ ho.out rfl rfl rfl L1.out (by omega) ?_; intro v1 w1 ho1 hb1; have hs1 := hb1.size)
          | (refine wpList_append_byte rfl _ _ rfl B _ (l ++ esc ((bs s).take k) ++ [s[k]]) 255 _ ho1 rfl rfl rfl L2.out (by omega) ?_; intro v2 w2 ho2 hb2))
        go_roundw
        case rel => exact ⟨k + 1, by omega, by go_num, by show OwnB _ _ _ _; rw [He.out, ← List.append_assoc, ← List.append_assoc]; exact ho2, hb.trans (hb1.trans hb2)⟩
        case measure => simp [intOf]; omega
      · have He := Lib.hid (esc_at1 Hat.out (u8_nonzero hc))
        have d : ((s[k].toNat : Int) == 0) = false := by simp [hc]
        clear hc
        have L1 : Hid ((l ++ esc ((bs s).take k)).length < 1099511627776) := Nat.lt_trans Hlen.out (by decide)
        go_wp2_with (at_builtin; refine wpList_append_byte rfl _ _ rfl B _ (l ++ esc ((bs s).take k)) s[k] _ ho.out rfl rfl rfl L1.out (by omega) ?_; intro v1 w1 ho1 hb1)
        go_roundw
        case rel => exact ⟨k + 1, by omega, by go_num, by show OwnB _ _ _ _; rw [He.out, ← List.append_assoc]; exact ho1, hb.trans hb1⟩
        case measure => simp [intOf]; omega
    · have L1 : Hid ((l ++ esc ((bs s).take k)).length < 1099511627000) := Nat.lt_trans Hlen.out (by decide)
      go_wp2_with (at_builtin; refine wpList_append_byte2 rfl _ _ rfl B _ (l ++ esc ((bs s).take k)) 0 0 _ _ ho.out rfl rfl rfl rfl L1.out (by omega) ?_; intro v1 w1 ho1 hb1)
      go_ret
      refine ⟨_, rfl, ?_, hb.trans hb1⟩
      rw [List.take_of_length_le (by rw [bs_length]; omega), List.append_assoc] at ho1
      exact ho1

/-- one byte appended, while a block of three cells lies aside -/
theorem wpList_append_byte_keep {w : World} {ops : Array Oper} {rest : List Oper} {o : Oper} {a : Act} {Q : Exit → Act → World → Prop} (hgd : o.guard = none) (s x : Operand)
    (ho : o.op = .call { callee := .builtin .append, args := #[s, x], argTypes := #[48, 48] })
    (base : Nat) (v : Value) (l : List UInt8) (c : UInt8) (z : Int) (b g : Nat) (x0 x1 x2 : Value)
    (hown : OwnB w base v l) (hs : a.eval s = v) (hx : a.eval x = .slice (some ⟨g, 0, none⟩) 1 1) (hg : g = w.heap.size) (hz : z = (c.toNat : Int)) (hlen : l.length < 1099511627776) (hbase : base ≤ w.heap.size)
    (hk : Blk3 w b x0 x1 x2) (hlt : b < w.heap.size) (hne : some b ≠ v.ownBlock)
    (h : ∀ v' w', OwnB w' base v' (l ++ [c]) → Below base w w' → Blk3 w' b x0 x1 x2 → b < w'.heap.size → wpList Tryd.prog ops Q rest (a.put o.dst v') w') :
    wpList Tryd.prog ops Q (o :: rest) a (w.alloc (.cells #[.int .u8 z] 5)) := by
  subst hz hg
  obtain ⟨i0, hi, hz0, hz1, hz2⟩ := info_parts info8
  refine wpList_append_own _ hgd s x 48 ho base 5 i0 (.int .u8 0) 1 1 Tryd.underlying48 hi hz0 hz1 hz2 rfl (by decide) v l.length (B8 l) hs (World.ownsRow.alloc hown _)
    ⟨w.heap.size, 0, none⟩ 1 1 [.int .u8 (c.toNat : Int)] hx rfl (fun j u hj => ?_) (fun u hu => ?_) (by unfold maxLen; omega) (by omega) (by simp; omega) ?_
  · match j, hj with
    | 0, hj => simp at hj; subst hj; simp [Addr.add]
  · simp at hu; subst hu; rfl
  · intro v' w' h1 h2 _
    have hsz := h2.size
    simp at hsz
    have q : ∀ i, w'.cell? ⟨b, i, none⟩ = w.cell? ⟨b, i, none⟩ ∧ w'.frozen? ⟨b, i, none⟩ = w.frozen? ⟨b, i, none⟩ := fun i => by
      have h3 := (Below.refl w.heap.size w).alloc (Nat.le_refl _) (.cells #[.int .u8 (c.toNat : Int)] 5)
      have e := h2.block b (by simp; omega) hne
      exact ⟨(World.cell?_of_block (w := w.alloc (.cells #[.int .u8 (c.toNat : Int)] 5)) e).trans (h3.cell (p := ⟨b, i, none⟩) hlt), (World.frozen?_of_block (w := w.alloc (.cells #[.int .u8 (c.toNat : Int)] 5)) e).trans (h3.frozen (p := ⟨b, i, none⟩) hlt)⟩
    obtain ⟨c0, c1, c2, f0, f1, f2⟩ := hk
    refine h v' w' ?_ (((Below.refl base w).alloc hbase _).grown h2 (by simp; omega) (fun k hk => ?_)) ⟨(q 0).1.trans c0, (q 1).1.trans c1, (q 2).1.trans c2, (q 0).2.trans f0, (q 1).2.trans f1, (q 2).2.trans f2⟩ (by omega)
    · unfold OwnB
      rw [B8_append, List.length_append]
      exact h1
    · exact ((World.ownsRow.lt hown) k hk).1
/-- the key of a value lies behind the row -/
def PutKey (w : World) (B : Nat) (l : List UInt8) (e : Ending) (w' : World) : Prop := ∃ v', e = .returned v' ∧ OwnB w' B v' l ∧ Below B w w'
theorem own_far {w : World} {B : Nat} {v : Value} {l : List UInt8} (h : OwnB w B v l) : some w.heap.size ≠ v.ownBlock := fun e => by
  have := (World.ownsRow.lt h _ e.symm).2
  omega
theorem kind_byte {k : Int} (c : UInt8) (h : (c.toNat : Int) = k) (h2 : 0 ≤ k ∧ k < 256) : k % 256 = (c.toNat : Int) := by omega

set_option maxRecDepth 100000 in
set_option maxHeartbeats 800000 in
theorem appKey_any (v : Value) (l : List UInt8) (B : Nat) (k n : Int) (s : ByteArray) (w : World) (hr : rightV k n (bs s) = true) (b1 : -9223372036854775808 ≤ n) (b2 : n < 9223372036854775808)
    (hown : OwnB w B v l) (hB : B ≤ w.heap.size) (hl : l.length ≤ 900000) :
    Calls Tryd.prog 24 #[v, VV k n s] w fun e w' => ∃ v', e = .returned v' ∧ OwnB w' B v' (l ++ key k n (bs s)) ∧ Below B w w' := by
  have HO := Lib.hid (OwnB.alloc hown (.cells #[.int .i64 k, .int .i64 n, .string s] 30))
  have HF := Lib.hid (own_far hown)
  have HL : Hid (l.length < 1099511627776) := Nat.lt_of_le_of_lt hl (by decide)
  have HB0 := Lib.hid (Blk3.new w (.int .i64 k) (.int .i64 n) (.string s) 30)
  have hl1 : ∀ c : UInt8, (l ++ [c]).length ≤ 1000000 := fun c => by rw [List.length_append, List.length_singleton]; omega
  have HL1 := Lib.hid hl1; clear hl1
  clear hown
  rcases rightV_form hr with ⟨rfl, rfl, hs⟩ | ⟨rfl, p1, p2, hs⟩ | ⟨rfl, hs⟩ | ⟨rfl, rfl, hs, _⟩ | ⟨rfl, rfl, hs⟩
  · have Hk : Hid (key 0 0 (bs s) = [0]) := rfl
    clear hr hs b1 b2 HL1
    go_enter Tryd.func24, Tryd.ntmps24
    go_wp2_with (at_builtin; refine wpList_append_byte_keep rfl _ _ rfl B _ l 0 _ w.heap.size _ _ _ _ HO.out rfl rfl (by simp) rfl HL.out (by simp; omega) HB0.out (by simp) HF.out ?_; intro v1 w1 ho1 hb1 hk1 hlt1; have HK1 := Lib.hid hk1; clear hk1; obtain ⟨c0, c1, c2, _, _, _⟩ := HK1.out)
    go_ret
    exact ⟨_, rfl, by rw [Hk.out]; exact ho1, ((Below.refl B w).alloc hB _).trans hb1⟩
  · obtain ⟨W, hx, hW, hbe⟩ := put4 n p1 p2
    have Hk : Hid (l ++ key 1 n (bs s) = l ++ [1] ++ be 4 W) := by show _ = _; rw [key_1, hbe, List.append_assoc]; rfl
    have HX := Lib.hid hx; clear hx hbe hr hs b1 b2 hW
    go_enter Tryd.func24, Tryd.ntmps24
    go_wp2_with (at_builtin; refine wpList_append_byte_keep rfl _ _ rfl B _ l 1 _ w.heap.size _ _ _ _ HO.out rfl rfl (by simp) rfl HL.out (by simp; omega) HB0.out (by simp) HF.out ?_; intro v1 w1 ho1 hb1 hk1 hlt1; have HK1 := Lib.hid hk1; clear hk1; obtain ⟨c0, c1, c2, _, _, _⟩ := HK1.out)
    have hs1 := hb1.size
    simp at hs1
    refine (appNum_any v1 (l ++ [1]) B n 4 2147483648 W w1 topBit4 HX.out ho1 (by omega) (HL1.out 1) (by omega)).mono ?_
    rintro e w2 ⟨v2, rfl, ho2, hb2⟩
    go_wp2_with fail
    go_ret
    exact ⟨_, rfl, by rw [Hk.out]; exact ho2, ((Below.refl B w).alloc hB _).trans (hb1.trans hb2)⟩
  · obtain ⟨W, hx, hW, hbe⟩ := put8 n b1 b2
    have Hk : Hid (l ++ key 2 n (bs s) = l ++ [2] ++ be 8 W) := by show _ = _; rw [key_2, hbe, List.append_assoc]; rfl
    have HX := Lib.hid hx; clear hx hbe hr hs b1 b2 hW
    go_enter Tryd.func24, Tryd.ntmps24
    go_wp2_with (at_builtin; refine wpList_append_byte_keep rfl _ _ rfl B _ l 2 _ w.heap.size _ _ _ _ HO.out rfl rfl (by simp) rfl HL.out (by simp; omega) HB0.out (by simp) HF.out ?_; intro v1 w1 ho1 hb1 hk1 hlt1; have HK1 := Lib.hid hk1; clear hk1; obtain ⟨c0, c1, c2, _, _, _⟩ := HK1.out)
    have hs1 := hb1.size
    simp at hs1
    refine (appNum_any v1 (l ++ [2]) B n 8 9223372036854775808 W w1 topBit8 HX.out ho1 (by omega) (HL1.out 2) (by omega)).mono ?_
    rintro e w2 ⟨v2, rfl, ho2, hb2⟩
    go_wp2_with fail
    go_ret
    exact ⟨_, rfl, by rw [Hk.out]; exact ho2, ((Below.refl B w).alloc hB _).trans (hb1.trans hb2)⟩
  · rw [bs_length] at hs
    have Hk : Hid (l ++ key 3 0 (bs s) = l ++ [3] ++ (esc (bs s) ++ [0, 0])) := by show _ = _; rw [key_3, List.append_assoc]; rfl
    clear hr b1 b2
    go_enter Tryd.func24, Tryd.ntmps24
    go_wp2_with (at_builtin; refine wpList_append_byte_keep rfl _ _ rfl B _ l 3 _ w.heap.size _ _ _ _ HO.out rfl rfl (by simp) rfl HL.out (by simp; omega) HB0.out (by simp) HF.out ?_; intro v1 w1 ho1 hb1 hk1 hlt1; have HK1 := Lib.hid hk1; clear hk1; obtain ⟨c0, c1, c2, _, _, _⟩ := HK1.out)
    have hs1 := hb1.size
    simp at hs1
    refine (appStr_any v1 (l ++ [3]) B s w1 ho1 (by omega) (HL1.out 3) (by omega)).mono ?_
    rintro e w2 ⟨v2, rfl, ho2, hb2⟩
    go_wp2_with fail
    go_ret
    exact ⟨_, rfl, by rw [Hk.out]; exact ho2, ((Below.refl B w).alloc hB _).trans (hb1.trans hb2)⟩
  · rw [bs_length] at hs
    have Hk : Hid (l ++ key 4 0 (bs s) = l ++ [4] ++ (esc (bs s) ++ [0, 0])) := by show _ = _; rw [key_4, List.append_assoc]; rfl
    clear hr b1 b2
    go_enter Tryd.func24, Tryd.ntmps24
    go_wp2_with (at_builtin; refine wpList_append_byte_keep rfl _ _ rfl B _ l 4 _ w.heap.size _ _ _ _ HO.out rfl rfl (by simp) rfl HL.out (by simp; omega) HB0.out (by simp) HF.out ?_; intro v1 w1 ho1 hb1 hk1 hlt1; have HK1 := Lib.hid hk1; clear hk1; obtain ⟨c0, c1, c2, _, _, _⟩ := HK1.out)
    have hs1 := hb1.size
    simp at hs1
    refine (appStr_any v1 (l ++ [4]) B s w1 ho1 (by omega) (HL1.out 4) (by omega)).mono ?_
    rintro e w2 ⟨v2, rfl, ho2, hb2⟩
    go_wp2_with fail
    go_ret
    exact ⟨_, rfl, by rw [Hk.out]; exact ho2, ((Below.refl B w).alloc hB _).trans (hb1.trans hb2)⟩
end Go.Proofs.YtbbdmphclnnejaaDoor
