/-
  Texts that the proof needs, one behind the other: DdlLibC, DdlCloneC, DdlAcolC, DdlAddC, DdlPlainC, DdlPlain2C, DdlFillC, DdlInsC, DdlIns2C, DdlCreateC, DdlColC, DdlCutC, DdlChcolC, DdlChangeC.
-/
import Derived.Lib.SliceRun
import Derived.Laws.IdiomCopy
import Derived.Deep.RegionLaw
import Derived.WalkKit
import Derived.Shelf.Spec.SlicesInsertGrow
import Derived.Test.YtlbdbaafmdikcaaGreatDoorPart1
import Derived.Test.YtlbdbaafmdikcaaGreatDoorPart2

/-
  Contracts of package slices at tables and columns: Clone, Delete of one, Equal.
-/
namespace Go.Proofs.YtlbdbaafmdikcaaGreatDoor
open Go.RowKit

theorem RowAt.nil {α : Type} {m : Nat} {f : α → List Value} {w : World} {B : Nat} {l : List α} (h : RowAt m f w B none l) : l = [] := by
  cases l with
  | nil => rfl
  | cons y r =>
    obtain ⟨_, _, h3, _⟩ := h (by simp)
    cases h3
/-- a row by its cells -/
theorem own_of_cells {α : Type} {T : TypeId} {m : Nat} {f : α → List Value} (hm : ∀ x, (f x).length = m) {w : World} {B g cap : Nat} {l : List α} {cur : Array Value} (hg : w.heap[g]? = some (.cells cur T (0, 0))) (hB : B ≤ g) (hcap : l.length ≤ cap) (hmax : cap ≤ maxLen) (hsz : cur.size = cap * m)
    (hc : ∀ j x i v, l[j]? = some x → (f x)[i]? = some v → w.cell? ⟨g, j * m + i, none⟩ = some v) : OwnR T m f w B (.slice (some ⟨g, 0, none⟩) l.length cap) l := by
  refine ⟨flat_length hm l, .inr ⟨g, cap, cur, rfl, hB, hg, hcap, hmax, hsz, ?_⟩⟩
  have hlen : (cur.toList.take (l.length * m)).length = (flt f l).length := by
    have h1 := Nat.mul_le_mul_right m hcap
    have h2 : cur.toList.length = cap * m := by simpa using hsz
    rw [List.length_take, flat_length hm, h2]
    omega
  refine List.ext_getElem? fun p => ?_
  by_cases hp : p < (flt f l).length
  · have := flat_all hm (Q := fun p u => w.cell? ⟨g, p, none⟩ = some u) l hc p _ (List.getElem?_eq_getElem hp)
    rw [cell_of_row w g p cur T (0, 0) hg] at this
    rw [List.getElem?_eq_getElem hp, List.getElem?_take, if_pos (by rw [← flat_length hm l]; exact hp), Array.getElem?_toList]
    exact this
  · rw [List.getElem?_eq_none (by omega), List.getElem?_eq_none (by omega)]
theorem setCells_block (g : Nat) (T : TypeId) : ∀ (vs : List Value) (o : Nat) (w : World) (cur : Array Value), w.heap[g]? = some (.cells cur T (0, 0)) → ∃ cur', (w.setCells g o vs).heap[g]? = some (.cells cur' T (0, 0)) ∧ cur'.size = cur.size
  | [], _, w, cur, h => ⟨cur, h, rfl⟩
  | v :: r, o, w, cur, h => by
    obtain ⟨c, h1, h2⟩ := setCells_block g T r (o + 1) (w.setCell ⟨g, o, none⟩ v) _ (heap_setCell_same w g o cur T v h)
    exact ⟨c, h1, by rw [h2]; simp⟩
theorem off_setCells (g : Nat) : ∀ (vs : List Value) (o : Nat) (w : World), Off (fun k => k = g) w (w.setCells g o vs)
  | [], _, w => Off.refl _ w
  | v :: r, o, w => (Off.set w g o v).trans (off_setCells g r (o + 1) _)
theorem off_drew {S : Nat → Prop} (w : World) : Off S w w.drew := ⟨rfl, rfl, rfl, Nat.le_refl _, fun _ _ _ => rfl⟩
/-- 'copy' at elements of any number of cells -/
theorem run_copy_cellsK {m : Nat} (w : World) (dT sT ty elem : TypeId) (b o dLen dCap : Nat) (a : Addr) (sLen sCap : Nat) (cs : List Value)
    (hu : Tryz.prog.underlying dT = some (.slice elem)) (hs : (Tryz.prog.info? elem).map (·.size) = some m) (hn : cs.length = Nat.min sLen dLen * m)
    (hsrc : ∀ j v, cs[j]? = some v → w.cell? (a.add j) = some v) (hc : ∀ j, j < cs.length → (w.cell? ⟨b, o + j, none⟩).isSome = true) (hf : ∀ j, j < cs.length → w.frozen? ⟨b, o + j, none⟩ = false) (h1 : ∀ v ∈ cs, v.oneCell' = true) :
    (Builtin.copy_ #[dT, sT] ty #[.slice (some ⟨b, o, none⟩) dLen dCap, .slice (some a) sLen sCap]).run Tryz.prog w = .ok (goInt (Nat.min sLen dLen)) (w.setCells b o cs) := by
  have hl := run_loadCells_list (P := Tryz.prog) w a cs hsrc
  have hst := run_storeCells_cells (P := Tryz.prog) b o cs 0 w (by simpa using hc) (by simpa using hf) h1
  cases hq : Tryz.prog.info? elem with
  | none => simp [hq] at hs
  | some i =>
    have hi : i.size = m := by simpa [hq] using hs
    subst hi
    simp [Builtin.copy_, run_underlying hu, Builtin.lenOf, Builtin.firstCells, sizeOf, typeInfo, hq, ← hn, hl, hst]
/-- 'clear' of one element of any number of cells -/
theorem run_clear_one (w : World) (t e ty : TypeId) (z : Value) (ht : Tryz.prog.underlying t = some (.slice e)) (hv : ∀ w, (zeroValue e).run Tryz.prog w = .ok z w) (h1 : ∀ v ∈ z.cells.toList, v.oneCell' = true) (b o c : Nat)
    (hc : ∀ j, j < z.cells.size → (w.cell? ⟨b, o + j, none⟩).isSome = true) (hf : ∀ j, j < z.cells.size → w.frozen? ⟨b, o + j, none⟩ = false) :
    (Builtin.clear_ #[t] ty #[.slice (some ⟨b, o, none⟩) 1 c]).run Tryz.prog w = .ok (.tuple #[]) (w.setCells b o z.cells.toList) := by
  have hzc : (Builtin.zeroCells z.cells 1).toList = z.cells.toList := by
    simp [Builtin.zeroCells]
    apply List.ext_getElem
    · simp
    · intro i h1 h2
      simp at h1
      simp [Nat.mod_eq_of_lt h1, getElem!_pos z.cells i h1]
  have hst := run_storeCells_cells (P := Tryz.prog) b o z.cells.toList 0 w (by simpa using hc) (by simpa using hf) h1
  simp only [Nat.add_zero] at hst
  simp [Builtin.clear_, run_underlying ht, hv, hzc, hst]
theorem erase_get {α : Type} (l : List α) (k j : Nat) : (l.eraseIdx k)[j]? = if j < k then l[j]? else l[j + 1]? := by
  rw [List.getElem?_eraseIdx]

set_option maxRecDepth 100000 in
theorem cclone_any (A : Option Addr) (cp : Nat) (vs : List Cb) (w : World) (hA : RowAt 8 fC w w.heap.size A vs) (hl : vs.length ≤ 1000000) :
    Calls Tryz.prog 50 #[.slice A vs.length cp] w fun e w' => ∃ v, e = .returned v ∧ OwnC w' w.heap.size v vs ∧ Below w.heap.size w w' := by
  have q : ∀ (w : World) (a : Option Addr) (n c n' c' : Nat), (binOp .eql 26 (.slice a n c) (.slice none n' c')).run Tryz.prog w = .ok (.bool a.isNone) w := fun w a n c n' c' => Lib.run_eql_slice_nil w _ _ a n c n' c' Tryz.underlying26
  cases A with
  | none =>
    obtain rfl := hA.nil
    clear hA
    go_enter Tryz.func50, Tryz.ntmps50
    go_wp2_with fail
    go_ret
    exact ⟨_, rfl, OwnR.nil _ _ _ _ _, Below.refl _ _⟩
  | some ad =>
    have HA := Lib.hid (hA.to ((Below.refl w.heap.size w).alloc (Nat.le_refl _) (.cells #[] 59))); clear hA
    have HO := Lib.hid (OwnR.lit0 59 8 fC w w.heap.size (Nat.le_refl _))
    go_enter Tryz.func50, Tryz.ntmps50
    go_wp2_with (at_builtin; refine wpList_append_rows Tryz.underlying26 infoC rfl (by decide) (by decide) lenC oneC rfl _ _ rfl w.heap.size _ [] (some ad) _ cp vs HO.out rfl rfl rfl (fun h => by cases h) HA.out (by simp; omega) (by simp) ?_; intro v1 w1 ho1 hg1)
    go_ret
    exact ⟨_, rfl, ho1, ((Below.refl w.heap.size w).alloc (Nat.le_refl _) _).grown hg1 (by simp) (by intro k hk; simp [Value.ownBlock] at hk; omega)⟩
set_option maxRecDepth 1000000 in
set_option maxHeartbeats 4000000 in
theorem cdel_any (g cap k : Nat) (l : List Cb) (w : World) (B : Nat) (hO : OwnC w B (.slice (some ⟨g, 0, none⟩) l.length cap) l) (hk : k < l.length) (hl : l.length ≤ 1000000) :
    Calls Tryz.prog 111 #[.slice (some ⟨g, 0, none⟩) l.length cap, .int .i64 (k : Int), .int .i64 ((k : Int) + 1)] w fun e w' =>
      e = .returned (.slice (some ⟨g, 0, none⟩) (l.length - 1) cap) ∧ OwnC w' B (.slice (some ⟨g, 0, none⟩) (l.length - 1) cap) (l.eraseIdx k) ∧ Off (fun x => x = g) w w' := by
  have hO' := hO
  obtain ⟨_, h0 | ⟨g', cap', cur, hsl, hB, hcur, hcap, hmax, hcs, _⟩⟩ := hO'
  · omega
  cases hsl
  have hm63 : cap ≤ 9223372036854775807 := by unfold maxLen at hmax; omega
  have hcell : ∀ j, j < cap * 8 → (w.cell? ⟨g, j, none⟩).isSome = true := fun j hj => by
    rw [cell_of_row w g j cur _ (0, 0) hcur, Array.getElem?_eq_getElem (by omega)]; rfl
  have hfro : ∀ j, w.frozen? ⟨g, j, none⟩ = false := fun j => frozen_of_row w g j cur _ hcur
  obtain ⟨i0, hi0, hz0, hz1, hz2⟩ := info_parts infoC
  -- the cells that are moved to the left
  obtain ⟨news, hnews⟩ : ∃ news, news = flt fC (l.drop (k + 1)) := ⟨_, rfl⟩
  have hlen : news.length = (l.length - (k + 1)) * 8 := by rw [hnews, flat_length lenC, List.length_drop]
  have hget : ∀ t u, news[t]? = some u → w.cell? ⟨g, (k + 1) * 8 + t, none⟩ = some u := by
    rw [hnews]
    refine flat_all lenC _ fun j x i v hj hv => ?_
    rw [show (k + 1) * 8 + (j * 8 + i) = (k + 1 + j) * 8 + i by omega]
    exact hO.cell lenC (by rwa [List.getElem?_drop] at hj) hv
  obtain ⟨A, hA, hsrc⟩ : ∃ A : Addr, (if cap = k + 1 then some (⟨g, 0, none⟩ : Addr) else some ⟨g, (k + 1) * 8, none⟩) = some A ∧ Hid (∀ t u, news[t]? = some u → w.drew.cell? (A.add t) = some u) := by
    by_cases h : cap = k + 1
    · refine ⟨⟨g, 0, none⟩, by simp [h], fun t u hu => ?_⟩
      have h0 : news.length = 0 := by rw [hlen]; omega
      rw [List.length_eq_zero_iff.1 h0] at hu
      simp at hu
    · refine ⟨⟨g, (k + 1) * 8, none⟩, by simp [h], fun t u hu => ?_⟩
      rw [Addr.add_lit]
      exact hget t u hu
  have s1 : Hid (news.length = (l.length - (k + 1)) * 8) := hlen
  have s2 : Hid (∀ u ∈ news, u.oneCell' = true) := by
    rw [hnews]
    exact flat_mem oneC _
  have s3 : Hid (∀ t, t < news.length → (w.drew.cell? ⟨g, 0 + k * 8 + t, none⟩).isSome = true ∧ w.drew.frozen? ⟨g, 0 + k * 8 + t, none⟩ = false) := by
    intro t ht
    rw [hlen] at ht
    exact ⟨hcell _ (by omega), hfro _⟩
  obtain ⟨W1, hW1⟩ : ∃ W1, W1 = w.drew.setCells g (0 + k * 8) news := ⟨_, rfl⟩
  obtain ⟨cur1, hcur1, hcs1⟩ : ∃ cur1, W1.heap[g]? = some (.cells cur1 59 (0, 0)) ∧ cur1.size = cur.size := by
    rw [hW1]; exact setCells_block g _ news _ w.drew cur hcur
  have hcell1 : ∀ j, j < cap * 8 → (W1.cell? ⟨g, j, none⟩).isSome = true := fun j hj => by
    rw [cell_of_row W1 g j cur1 _ (0, 0) hcur1, Array.getElem?_eq_getElem (by omega)]; rfl
  have hfro1 : ∀ j, W1.frozen? ⟨g, j, none⟩ = false := fun j => frozen_of_row W1 g j cur1 _ hcur1
  obtain ⟨Z, hZ⟩ : ∃ Z : List Value, Z = (.agg #[.int .i64 0, .string ByteArray.empty, .int .i64 0, .int .i64 0, .bool false, .int .i64 0, .int .i64 0, .string ByteArray.empty] : Value).cells.toList := ⟨_, rfl⟩
  have hZl : Z.length = 8 := by rw [hZ]; rfl
  have hcl : ∀ ty c, (Builtin.clear_ #[26] ty #[.slice (some ⟨g, (l.length - 1) * 8, none⟩) 1 c]).run Tryz.prog W1 = .ok (.tuple #[]) (W1.setCells g ((l.length - 1) * 8) Z) := fun ty c => by
    rw [hZ]
    exact run_clear_one W1 _ _ ty _ Tryz.underlying26 (fun w => by simp [zeroValue, typeInfo, hi0, hz0]) (by decide) g _ c (fun j hj => hcell1 _ (by have : j < 8 := hj; omega)) (fun j _ => hfro1 _)
  have hW : Hid (W1 = w.drew.setCells g (0 + k * 8) news) := hW1
  have Hend : Hid (OwnC (W1.setCells g ((l.length - 1) * 8) Z) B (.slice (some ⟨g, 0, none⟩) (l.length - 1) cap) (l.eraseIdx k) ∧ Off (fun x => x = g) w (W1.setCells g ((l.length - 1) * 8) Z)) := by
    obtain ⟨cur2, hcur2, hcs2⟩ := setCells_block g 59 Z ((l.length - 1) * 8) W1 cur1 hcur1
    have hel : (l.eraseIdx k).length = l.length - 1 := by rw [List.length_eraseIdx, if_pos hk]
    refine ⟨?_, ?_⟩
    · suffices h : OwnC (W1.setCells g ((l.length - 1) * 8) Z) B (.slice (some ⟨g, 0, none⟩) (l.eraseIdx k).length cap) (l.eraseIdx k) by rwa [hel] at h
      refine own_of_cells lenC hcur2 hB (by omega) hmax (by rw [hcs2, hcs1, hcs]) fun j x i v hj hv => ?_
      have hi : i < 8 := by have := (List.getElem?_eq_some_iff.1 hv).1; rwa [lenC] at this
      have hjl : j < l.length - 1 := by have := (List.getElem?_eq_some_iff.1 hj).1; omega
      rw [World.cell?_setCells_out g Z _ W1 _ (fun _ _ => .inl (by show j * 8 + i < _; omega)), hW1]
      rw [erase_get] at hj
      by_cases hjk : j < k
      · rw [if_pos hjk] at hj
        rw [World.cell?_setCells_out g news _ w.drew _ (fun _ _ => .inl (by show j * 8 + i < _; omega))]
        exact hO.cell lenC hj hv
      · rw [if_neg hjk] at hj
        have hin : (j - k) * 8 + i < news.length := by rw [hlen]; omega
        have := World.cell?_setCells_in g news (0 + k * 8) w.drew (fun t ht => (s3.out t ht).1) ((j - k) * 8 + i) hin
        rw [show 0 + k * 8 + ((j - k) * 8 + i) = j * 8 + i by omega] at this
        rw [this]
        have h2 := flat_get lenC (l.drop (k + 1)) (j - k) x i v (by rw [List.getElem?_drop, show k + 1 + (j - k) = j + 1 by omega]; exact hj) hv
        rw [← hnews, List.getElem?_eq_getElem hin] at h2
        exact h2
    · rw [hW1]
      exact ((off_drew w).trans (off_setCells g _ _ _)).trans (off_setCells g _ _ _)
  have hwk : IntKind.i64.wrap ((k : Int) + 1) = (k : Int) + 1 := by rw [IntKind.wrap_i64]; omega
  have htn : ((k : Int) + 1).toNat = k + 1 := by omega
  have hk1 : (k : Int) + 1 ≤ (l.length : Int) := by omega
  have hk2 : (0 : Int) ≤ (k : Int) + 1 := by omega
  have hne : ¬ ((k : Int) = (k : Int) + 1) := by omega
  have hkc : (k : Int) ≤ (cap : Int) := by omega
  have hkl : (k : Int) ≤ (l.length : Int) := by omega
  have hkk : (k : Int) ≤ (k : Int) + 1 := by omega
  have hlc : (l.length : Int) ≤ (cap : Int) := by omega
  have htl : l.length - (l.length - 1) = 1 := by omega
  have htk : k + (l.length - (k + 1)) = l.length - 1 := by omega
  clear hW1 hO hget hnews hcell hfro hcur hcur1 hcs hcs1 hcell1 hfro1 hlen hZ hZl
  go_enter Tryz.func111, Tryz.ntmps111
  go_wp2_with fail
  go_region_law (refine step_append_room rfl (.tmp 22) (.tmp 25) 26 rfl 59 i0 8 Tryz.underlying26 hi0 hz1 g 0 k cap (by simp [Act.eval, Act.put]) A (l.length - (k + 1)) (cap - (k + 1)) news (by simp [Act.eval, Act.put]) s1.out hsrc.out s2.out (by omega) s3.out ?_; rw [← hW.out])
  go_wp2
  go_ret
  exact ⟨rfl, Hend.out.1, Hend.out.2⟩

set_option maxRecDepth 100000 in
theorem tclone_any (A : Option Addr) (cp : Nat) (vs : List Tb) (w : World) (hA : RowAt 5 fT w w.heap.size A vs) (hl : vs.length ≤ 1000000) :
    Calls Tryz.prog 49 #[.slice A vs.length cp] w fun e w' => ∃ v, e = .returned v ∧ OwnTb w' w.heap.size v vs ∧ Below w.heap.size w w' := by
  have q : ∀ (w : World) (a : Option Addr) (n c n' c' : Nat), (binOp .eql 35 (.slice a n c) (.slice none n' c')).run Tryz.prog w = .ok (.bool a.isNone) w := fun w a n c n' c' => Lib.run_eql_slice_nil w _ _ a n c n' c' Tryz.underlying35
  cases A with
  | none =>
    obtain rfl := hA.nil
    clear hA
    go_enter Tryz.func49, Tryz.ntmps49
    go_wp2_with fail
    go_ret
    exact ⟨_, rfl, OwnR.nil _ _ _ _ _, Below.refl _ _⟩
  | some ad =>
    have HA := Lib.hid (hA.to ((Below.refl w.heap.size w).alloc (Nat.le_refl _) (.cells #[] 45))); clear hA
    have HO := Lib.hid (OwnR.lit0 45 5 fT w w.heap.size (Nat.le_refl _))
    go_enter Tryz.func49, Tryz.ntmps49
    go_wp2_with (at_builtin; refine wpList_append_rows Tryz.underlying35 infoTb rfl (by decide) (by decide) lenT oneT rfl _ _ rfl w.heap.size _ [] (some ad) _ cp vs HO.out rfl rfl rfl (fun h => by cases h) HA.out (by simp; omega) (by simp) ?_; intro v1 w1 ho1 hg1)
    go_ret
    exact ⟨_, rfl, ho1, ((Below.refl w.heap.size w).alloc (Nat.le_refl _) _).grown hg1 (by simp) (by intro k hk; simp [Value.ownBlock] at hk; omega)⟩
set_option maxRecDepth 1000000 in
set_option maxHeartbeats 4000000 in
theorem tdel_any (g cap k : Nat) (l : List Tb) (w : World) (B : Nat) (hO : OwnTb w B (.slice (some ⟨g, 0, none⟩) l.length cap) l) (hk : k < l.length) (hl : l.length ≤ 1000000) :
    Calls Tryz.prog 53 #[.slice (some ⟨g, 0, none⟩) l.length cap, .int .i64 (k : Int), .int .i64 ((k : Int) + 1)] w fun e w' =>
      e = .returned (.slice (some ⟨g, 0, none⟩) (l.length - 1) cap) ∧ OwnTb w' B (.slice (some ⟨g, 0, none⟩) (l.length - 1) cap) (l.eraseIdx k) ∧ Off (fun x => x = g) w w' := by
  have hO' := hO
  obtain ⟨_, h0 | ⟨g', cap', cur, hsl, hB, hcur, hcap, hmax, hcs, _⟩⟩ := hO'
  · omega
  cases hsl
  have hm63 : cap ≤ 9223372036854775807 := by unfold maxLen at hmax; omega
  have hcell : ∀ j, j < cap * 5 → (w.cell? ⟨g, j, none⟩).isSome = true := fun j hj => by
    rw [cell_of_row w g j cur _ (0, 0) hcur, Array.getElem?_eq_getElem (by omega)]; rfl
  have hfro : ∀ j, w.frozen? ⟨g, j, none⟩ = false := fun j => frozen_of_row w g j cur _ hcur
  obtain ⟨i0, hi0, hz0, hz1, hz2⟩ := info_parts infoTb
  -- the cells that are moved to the left
  obtain ⟨news, hnews⟩ : ∃ news, news = flt fT (l.drop (k + 1)) := ⟨_, rfl⟩
  have hlen : news.length = (l.length - (k + 1)) * 5 := by rw [hnews, flat_length lenT, List.length_drop]
  have hget : ∀ t u, news[t]? = some u → w.cell? ⟨g, (k + 1) * 5 + t, none⟩ = some u := by
    rw [hnews]
    refine flat_all lenT _ fun j x i v hj hv => ?_
    rw [show (k + 1) * 5 + (j * 5 + i) = (k + 1 + j) * 5 + i by omega]
    exact hO.cell lenT (by rwa [List.getElem?_drop] at hj) hv
  obtain ⟨A, hA, hsrc⟩ : ∃ A : Addr, (if cap = k + 1 then some (⟨g, 0, none⟩ : Addr) else some ⟨g, (k + 1) * 5, none⟩) = some A ∧ Hid (∀ t u, news[t]? = some u → w.drew.cell? (A.add t) = some u) := by
    by_cases h : cap = k + 1
    · refine ⟨⟨g, 0, none⟩, by simp [h], fun t u hu => ?_⟩
      have h0 : news.length = 0 := by rw [hlen]; omega
      rw [List.length_eq_zero_iff.1 h0] at hu
      simp at hu
    · refine ⟨⟨g, (k + 1) * 5, none⟩, by simp [h], fun t u hu => ?_⟩
      rw [Addr.add_lit]
      exact hget t u hu
  have s1 : Hid (news.length = (l.length - (k + 1)) * 5) := hlen
  have s2 : Hid (∀ u ∈ news, u.oneCell' = true) := by
    rw [hnews]
    exact flat_mem oneT _
  have s3 : Hid (∀ t, t < news.length → (w.drew.cell? ⟨g, 0 + k * 5 + t, none⟩).isSome = true ∧ w.drew.frozen? ⟨g, 0 + k * 5 + t, none⟩ = false) := by
    intro t ht
    rw [hlen] at ht
    exact ⟨hcell _ (by omega), hfro _⟩
  obtain ⟨W1, hW1⟩ : ∃ W1, W1 = w.drew.setCells g (0 + k * 5) news := ⟨_, rfl⟩
  obtain ⟨cur1, hcur1, hcs1⟩ : ∃ cur1, W1.heap[g]? = some (.cells cur1 45 (0, 0)) ∧ cur1.size = cur.size := by
    rw [hW1]; exact setCells_block g _ news _ w.drew cur hcur
  have hcell1 : ∀ j, j < cap * 5 → (W1.cell? ⟨g, j, none⟩).isSome = true := fun j hj => by
    rw [cell_of_row W1 g j cur1 _ (0, 0) hcur1, Array.getElem?_eq_getElem (by omega)]; rfl
  have hfro1 : ∀ j, W1.frozen? ⟨g, j, none⟩ = false := fun j => frozen_of_row W1 g j cur1 _ hcur1
  obtain ⟨Z, hZ⟩ : ∃ Z : List Value, Z = (.agg #[.int .i64 0, .string ByteArray.empty, .int .i64 0, .int .i64 0, .slice none 0 0] : Value).cells.toList := ⟨_, rfl⟩
  have hZl : Z.length = 5 := by rw [hZ]; rfl
  have hcl : ∀ ty c, (Builtin.clear_ #[35] ty #[.slice (some ⟨g, (l.length - 1) * 5, none⟩) 1 c]).run Tryz.prog W1 = .ok (.tuple #[]) (W1.setCells g ((l.length - 1) * 5) Z) := fun ty c => by
    rw [hZ]
    exact run_clear_one W1 _ _ ty _ Tryz.underlying35 (fun w => by simp [zeroValue, typeInfo, hi0, hz0]) (by decide) g _ c (fun j hj => hcell1 _ (by have : j < 5 := hj; omega)) (fun j _ => hfro1 _)
  have hW : Hid (W1 = w.drew.setCells g (0 + k * 5) news) := hW1
  have Hend : Hid (OwnTb (W1.setCells g ((l.length - 1) * 5) Z) B (.slice (some ⟨g, 0, none⟩) (l.length - 1) cap) (l.eraseIdx k) ∧ Off (fun x => x = g) w (W1.setCells g ((l.length - 1) * 5) Z)) := by
    obtain ⟨cur2, hcur2, hcs2⟩ := setCells_block g 45 Z ((l.length - 1) * 5) W1 cur1 hcur1
    have hel : (l.eraseIdx k).length = l.length - 1 := by rw [List.length_eraseIdx, if_pos hk]
    refine ⟨?_, ?_⟩
    · suffices h : OwnTb (W1.setCells g ((l.length - 1) * 5) Z) B (.slice (some ⟨g, 0, none⟩) (l.eraseIdx k).length cap) (l.eraseIdx k) by rwa [hel] at h
      refine own_of_cells lenT hcur2 hB (by omega) hmax (by rw [hcs2, hcs1, hcs]) fun j x i v hj hv => ?_
      have hi : i < 5 := by have := (List.getElem?_eq_some_iff.1 hv).1; rwa [lenT] at this
      have hjl : j < l.length - 1 := by have := (List.getElem?_eq_some_iff.1 hj).1; omega
      rw [World.cell?_setCells_out g Z _ W1 _ (fun _ _ => .inl (by show j * 5 + i < _; omega)), hW1]
      rw [erase_get] at hj
      by_cases hjk : j < k
      · rw [if_pos hjk] at hj
        rw [World.cell?_setCells_out g news _ w.drew _ (fun _ _ => .inl (by show j * 5 + i < _; omega))]
        exact hO.cell lenT hj hv
      · rw [if_neg hjk] at hj
        have hin : (j - k) * 5 + i < news.length := by rw [hlen]; omega
        have := World.cell?_setCells_in g news (0 + k * 5) w.drew (fun t ht => (s3.out t ht).1) ((j - k) * 5 + i) hin
        rw [show 0 + k * 5 + ((j - k) * 5 + i) = j * 5 + i by omega] at this
        rw [this]
        have h2 := flat_get lenT (l.drop (k + 1)) (j - k) x i v (by rw [List.getElem?_drop, show k + 1 + (j - k) = j + 1 by omega]; exact hj) hv
        rw [← hnews, List.getElem?_eq_getElem hin] at h2
        exact h2
    · rw [hW1]
      exact ((off_drew w).trans (off_setCells g _ _ _)).trans (off_setCells g _ _ _)
  have hwk : IntKind.i64.wrap ((k : Int) + 1) = (k : Int) + 1 := by rw [IntKind.wrap_i64]; omega
  have htn : ((k : Int) + 1).toNat = k + 1 := by omega
  have hk1 : (k : Int) + 1 ≤ (l.length : Int) := by omega
  have hk2 : (0 : Int) ≤ (k : Int) + 1 := by omega
  have hne : ¬ ((k : Int) = (k : Int) + 1) := by omega
  have hkc : (k : Int) ≤ (cap : Int) := by omega
  have hkl : (k : Int) ≤ (l.length : Int) := by omega
  have hkk : (k : Int) ≤ (k : Int) + 1 := by omega
  have hlc : (l.length : Int) ≤ (cap : Int) := by omega
  have htl : l.length - (l.length - 1) = 1 := by omega
  have htk : k + (l.length - (k + 1)) = l.length - 1 := by omega
  clear hW1 hO hget hnews hcell hfro hcur hcur1 hcs hcs1 hcell1 hfro1 hlen hZ hZl
  go_enter Tryz.func53, Tryz.ntmps53
  go_wp2_with fail
  go_region_law (refine step_append_room rfl (.tmp 22) (.tmp 25) 35 rfl 45 i0 5 Tryz.underlying35 hi0 hz1 g 0 k cap (by simp [Act.eval, Act.put]) A (l.length - (k + 1)) (cap - (k + 1)) news (by simp [Act.eval, Act.put]) s1.out hsrc.out s2.out (by omega) s3.out ?_; rw [← hW.out])
  go_wp2
  go_ret
  exact ⟨rfl, Hend.out.1, Hend.out.2⟩
end Go.Proofs.YtlbdbaafmdikcaaGreatDoor

/-
  Contract of package ddl's clone: a catalog of the call's own.
-/
namespace Go.Proofs.YtlbdbaafmdikcaaGreatDoor
open Go.RowKit

/-- the first k tables have columns of the call's own -/
structure Part (w : World) (B Bc : Nat) (v : Value) (l m : List Tb) (k : Nat) : Prop where
  len : m.length = k
  same : m.map Tb.p = (l.take k).map Tb.p
  row : OwnTb w B v (m ++ l.drop k)
  cols : ∀ t ∈ m, OwnC w Bc (.slice t.A t.cols.length t.cap) t.cols
  apart : ∀ (i j : Nat) s t, m[i]? = some s → m[j]? = some t → i ≠ j → ∀ x, colBk s = some x → colBk t ≠ some x
theorem Part.step {w w2 : World} {B Bc g n cap k : Nat} {l m : List Tb} {t t' : Tb} (h : Part w B Bc (.slice (some ⟨g, 0, none⟩) n cap) l m k) (hn : n = l.length) (hk : l[k]? = some t) (hgB : g < Bc) (hBw : Bc ≤ w.heap.size) (hb : Below w.heap.size w w2)
    (hc : OwnC w2 w.heap.size (.slice t'.A t'.cols.length t'.cap) t'.cols) (hp : t'.p = t.p) :
    Part (w2.setCell ⟨g, k * 5 + 4, none⟩ (.slice t'.A t'.cols.length t'.cap)) B Bc (.slice (some ⟨g, 0, none⟩) n cap) l (m ++ [t']) (k + 1) := by
  have hkl := (List.getElem?_eq_some_iff.1 hk).1
  have hO := Off.set w2 g (k * 5 + 4) (.slice t'.A t'.cols.length t'.cap)
  have hgw : g < w.heap.size := by omega
  have hd : l.drop k = t :: l.drop (k + 1) := by rw [← List.getElem_cons_drop hkl]; congr 1; exact (List.getElem?_eq_some_iff.1 hk).2
  have hml := h.len
  refine ⟨by simp [hml], ?_, ?_, fun s hs => ?_, fun i j s u hi hj hne x hx hy => ?_⟩
  · rw [List.map_append, h.same, List.take_add_one, hk]
    simp [hp]
  · have hrow := h.row.below hb
    have hlen : (m ++ l.drop k).length = n := by rw [List.length_append, List.length_drop, hml, hn]; omega
    have e : m ++ [t'] ++ l.drop (k + 1) = (m ++ l.drop k).set k t' := by
      rw [List.set_append_right _ _ (by omega), hml, Nat.sub_self, hd]; simp
    rw [e]
    rw [← hlen] at hrow ⊢
    obtain ⟨e1, e2, e3, e4⟩ : t'.id = t.id ∧ t'.nm = t.nm ∧ t'.key = t.key ∧ t'.nx = t.nx := by
      unfold Tb.p at hp
      simp only [Tp.mk.injEq] at hp
      exact ⟨hp.1, hp.2.1, hp.2.2.1, hp.2.2.2.1⟩
    exact hrow.set1 lenT (k := k) (i := 4) (x := t) (by rw [List.getElem?_append_right (by omega), hml, Nat.sub_self, hd]; rfl) (by omega) (by simp [fT, e1, e2, e3, e4])
  · rcases List.mem_append.1 hs with h1 | h1
    · refine ((h.cols s h1).below hb).off hO fun x hx e => ?_
      have := ((h.cols s h1).lt x hx).1
      omega
    · obtain rfl : s = t' := by simpa using h1
      refine (hc.off hO fun x hx e => ?_).mono hBw
      have := (hc.lt x hx).1
      omega
  · have get : ∀ (j : Nat) s, (m ++ [t'])[j]? = some s → (j = k ∧ s = t') ∨ (j < k ∧ m[j]? = some s) := fun j s hj => by
      by_cases hjk : j < k
      · rw [List.getElem?_append_left (by omega)] at hj
        exact .inr ⟨hjk, hj⟩
      · rw [List.getElem?_append_right (by omega)] at hj
        have h1 := (List.getElem?_eq_some_iff.1 hj).1
        simp at h1
        have : j = k := by omega
        subst this
        rw [hml, Nat.sub_self] at hj
        simp at hj
        exact .inl ⟨rfl, hj.symm⟩
    have old : ∀ (j : Nat) s, m[j]? = some s → ∀ x, colBk s = some x → x < w.heap.size := fun j s hj x hx => ((h.cols s (List.mem_of_getElem? hj)).lt x hx).2
    rcases get i s hi with ⟨rfl, rfl⟩ | ⟨h1, hi'⟩
    · rcases get j u hj with ⟨rfl, rfl⟩ | ⟨h2, hj'⟩
      · exact hne rfl
      · have := old j u hj' x hy
        have := (hc.lt x hx).1
        omega
    · rcases get j u hj with ⟨rfl, rfl⟩ | ⟨h2, hj'⟩
      · have := old i s hi' x hx
        have := (hc.lt x hy).1
        omega
      · exact h.apart i j s u hi' hj' hne x hx hy
theorem Part.done {w : World} {B Bc : Nat} {v : Value} {l m : List Tb} {k : Nat} (h : Part w B Bc v l m k) (hk : k = l.length) (hv : ∀ x, v.ownBlock = some x → x < Bc) (hB : B ≤ Bc) : OwnCat w B Bc v m ∧ m.map Tb.p = l.map Tb.p ∧ m.length = l.length := by
  subst hk
  have := h.row
  rw [List.drop_length, List.append_nil] at this
  exact ⟨⟨this, hv, hB, h.cols, h.apart⟩, by rw [h.same, List.take_length], h.len⟩
theorem Part.to {w w' : World} {B Bc : Nat} {v : Value} {l m : List Tb} {k : Nat} (h : Part w B Bc v l m k) (hb : Below w.heap.size w w') : Part w' B Bc v l m k :=
  ⟨h.len, h.same, h.row.below hb, fun t ht => (h.cols t ht).below hb, h.apart⟩
theorem Part.zero {w : World} {B Bc : Nat} {v : Value} {l : List Tb} (h : OwnTb w B v l) : Part w B Bc v l [] 0 :=
  ⟨rfl, rfl, by simpa using h, fun t ht => by simp at ht, fun i j s t hi => by simp at hi⟩
theorem bput {B g : Nat} {w w' : World} (h : Below B w w') (hg : B ≤ g) (j : Nat) (v : Value) : Below B w (w'.setCell ⟨g, j, none⟩ v) := h.setCell (p := ⟨g, j, none⟩) hg v
/-- the boxes of the parameter and the result -/
theorem box_cc (w : World) (v : Value) : ∃ w0, (w.alloc (.cells #[v] 37)).alloc (.cells #[.slice none 0 0] 37) = w0 ∧ Below w.heap.size w w0 ∧ w0.cell? ⟨w.heap.size, 0, none⟩ = some v ∧ w0.heap.size = w.heap.size + 2 ∧ w0.heap[w.heap.size + 1]? = some (.cells #[.slice none 0 0] 37 (0, 0)) :=
  ⟨_, rfl, below_two w _ _, keep_alloc (by simp) _, by simp, by have := heap_alloc_new (w.alloc (.cells #[v] 37)) (.cells #[.slice none 0 0] 37); simpa using this⟩
theorem box_one' (w : World) (v : Value) (ty : TypeId) : ∃ w0, w.alloc (.cells #[v] ty) = w0 ∧ Below w.heap.size w w0 ∧ w0.cell? ⟨w.heap.size, 0, none⟩ = some v ∧ w0.heap.size = w.heap.size + 1 :=
  ⟨_, rfl, below_one w _, by simp, by simp⟩
set_option maxRecDepth 100000 in
/-- a result that is a catalog -/
theorem results_c1 {fn : Func} {p : Tmp} (h : fn.results = #[.cell p 37]) (tmps : Array Value) (w : World) {b : Nat} {x : Value} (hp : tmps.getD p undef = .pointer (some ⟨b, 0, none⟩)) (hc : w.cell? ⟨b, 0, none⟩ = some x) :
    (results fn tmps).run Tryz.prog w = .ok (.agg #[x]) w := by
  have hp' : tmps[p]?.getD undef = .pointer (some ⟨b, 0, none⟩) := by simpa using hp
  simp [results, h, go_sem, hp', hc]
set_option maxRecDepth 100000 in
theorem results_c2 {fn : Func} {p u : Tmp} (h : fn.results = #[.cell p 37, .tmp u]) (tmps : Array Value) (w : World) {b : Nat} {x : Value} (hp : tmps.getD p undef = .pointer (some ⟨b, 0, none⟩)) (hc : w.cell? ⟨b, 0, none⟩ = some x) :
    (results fn tmps).run Tryz.prog w = .ok (.tuple #[.agg #[x], tmps.getD u undef]) w := by
  have hp' : tmps[p]?.getD undef = .pointer (some ⟨b, 0, none⟩) := by simpa using hp
  simp [results, h, go_sem, hp', hc]
set_option maxRecDepth 100000 in
theorem results_c3 {fn : Func} {p u v : Tmp} (h : fn.results = #[.cell p 37, .tmp u, .tmp v]) (tmps : Array Value) (w : World) {b : Nat} {x : Value} (hp : tmps.getD p undef = .pointer (some ⟨b, 0, none⟩)) (hc : w.cell? ⟨b, 0, none⟩ = some x) :
    (results fn tmps).run Tryz.prog w = .ok (.tuple #[.agg #[x], tmps.getD u undef, tmps.getD v undef]) w := by
  have hp' : tmps[p]?.getD undef = .pointer (some ⟨b, 0, none⟩) := by simpa using hp
  simp [results, h, go_sem, hp', hc]
set_option maxRecDepth 100000 in
set_option maxHeartbeats 4000000 in
theorem clone9_any (A : Option Addr) (cp : Nat) (l : List Tb) (w : World) (hA : TabsAt w w.heap.size A l) (hl : l.length ≤ 1000000) (hw : ∀ t ∈ l, t.cols.length ≤ 1000000) :
    Calls Tryz.prog 33 #[.agg #[.slice A l.length cp]] w fun e w' => ∃ A' cap' l' Bc, e = .returned (.agg #[.slice A' l.length cap']) ∧ OwnCat w' w.heap.size Bc (.slice A' l.length cap') l' ∧ l'.map Tb.p = l.map Tb.p ∧ l'.length = l.length ∧ Below w.heap.size w w' := by
  obtain ⟨w0, hw0, hb0, hc0, hs0, hr0⟩ := box_cc w (.slice A l.length cp)
  have Hw0 := Lib.hid hw0; clear hw0
  have Hb0 := Lib.hid hb0
  have HA := Lib.hid (hA.to hb0); clear hA hb0
  have Hs0 := Lib.hid hs0; clear hs0
  have Hr0 := Lib.hid hr0; clear hr0
  have HW := Lib.hid hw; clear hw
  have HC := Lib.hid (tclone_any A cp l w0 HA.out.1 hl)
  rw [← Hw0.out] at HC
  have Hc0 := Lib.hid hc0
  clear hc0
  go_enter Tryz.func33, Tryz.ntmps33
  go_wp2_with fail
  refine HC.out.mono ?_
  rintro e w1 ⟨v, rfl, ho1, hb1⟩
  rw [Hw0.out] at ho1 hb1
  clear HC
  obtain ⟨A1, cap1, rfl, hlc, hcm, _⟩ := ho1.form
  obtain ⟨w2, hw2, hb2, hc2, hs2⟩ := box_one' w1 (.slice A1 l.length cap1) 37
  have Hw2 := Lib.hid hw2; clear hw2
  have HO2 := Lib.hid (ho1.below hb2)
  have Hg := Lib.hid (show ∀ x, (Value.slice A1 l.length cap1).ownBlock = some x → x < w1.heap.size from fun x hx => (ho1.lt x hx).2)
  have Hb2 := Lib.hid (bthen hb1 hb2)
  have Hs1 := Lib.hid hb1.size
  have Hs2 := Lib.hid hs2
  have Hc2 := Lib.hid hc2
  clear ho1 hb1 hb2 hs2
  go_wp2_with fail
  rw [Hw2.out]
  clear hc2
  go_loopw [12] (fun i wr => ∃ (k : Nat) (m : List Tb), k ≤ l.length ∧ i = .int .i64 k ∧ Hid (Part wr w0.heap.size w2.heap.size (.slice A1 l.length cap1) l m k) ∧ Hid (Below w0.heap.size w0 wr) ∧ Hid (wr.cell? ⟨w1.heap.size, 0, none⟩ = some (.slice A1 l.length cap1)) ∧ Hid (w2.heap.size ≤ wr.heap.size)) (fun i _ => l.length - (intOf i).toNat)
  case atStart => exact ⟨0, [], by omega, rfl, Part.zero HO2.out, Hb2.out, Hc2.out, Nat.le_refl _⟩
  case round =>
    obtain ⟨k, m, hk, rfl, hp, hb, hcx, hsz⟩ := hrel
    by_cases hlt : k < l.length
    · obtain ⟨t, ht⟩ : ∃ t, l[k]? = some t := ⟨l[k], by simp [hlt]⟩
      have Ht := Lib.hid ht
      have Htm := Lib.hid (List.mem_of_getElem? ht)
      have Hm : Hid ((m ++ l.drop k)[k]? = some t ∧ (m ++ l.drop k).length = l.length) := ⟨by
        rw [List.getElem?_append_right (by rw [hp.out.len]; omega), hp.out.len, Nat.sub_self, List.getElem?_drop, Nat.add_zero]; exact ht, by rw [List.length_append, List.length_drop, hp.out.len]; omega⟩
      clear ht
      have HR0 := Lib.hid hp.out.row
      obtain ⟨g, cap, e, hg1, hg2, hg3, hg4⟩ := OwnR.shape HR0.out (by rw [Hm.out.2]; omega)
      rw [Hm.out.2] at e
      cases e
      have HR : Hid (OwnTb wr w0.heap.size (.slice (some ⟨g, 0, none⟩) (m ++ l.drop k).length cap1) (m ++ l.drop k)) := by
        show OwnTb _ _ _ _
        rw [Hm.out.2]; exact HR0.out
      have Hg1 : Hid (g < w1.heap.size) := Hg.out g rfl
      have d4 := HR.out.cell lenT (k := k) (i := 4) Hm.out.1 rfl
      have Hd4 := Lib.hid d4
      have c0 := hcx.out
      have hgne : g ≠ w1.heap.size := by have := Hg1.out; omega
      have HCl := Lib.hid (fun w' hA' => cclone_any t.A t.cap t.cols w' hA' (HW.out t Htm.out))
      have HAd : Hid (RowAt 8 fC wr.drew wr.drew.heap.size t.A t.cols) := RowAt.to (HA.out.2 t Htm.out) hb.out.drew
      have hk0 : (0 : Int) ≤ (k : Int) := by omega
      have hkI : (k : Int) < (l.length : Int) := by omega
      have hw1r : w1.heap.size < wr.heap.size := by have := Hs2.out; have := hsz.out; omega
      clear hg2 hg3
      go_wp2_with fail
      go_region_with (first
        | (go_at_call 50; refine (HCl.out _ HAd.out).mono ?_; rintro e w3 ⟨v3, rfl, ho3, hb3⟩; have Hb3 := Lib.hid ((Below.refl wr.heap.size wr).drew.trans hb3); obtain ⟨A3, cap3, rfl, _, _, _⟩ := ho3.form; have HO3 := Lib.hid (show OwnC w3 wr.heap.size _ t.cols from ho3); clear ho3 hb3; have HR3 := Lib.hid (HR.out.below Hb3.out); have x0 := (Hb3.out.cell (p := ⟨w1.heap.size, 0, none⟩) hw1r).trans hcx.out; have z4 := HR3.out.cell lenT (k := k) (i := 4) Hm.out.1 rfl; have f4 := HR3.out.frozen (k * 5 + 4))
        | fail)
      all_goals
        have HP3 := Lib.hid (hp.out.step rfl Ht.out (show g < w2.heap.size by have := Hg1.out; have := Hs2.out; omega) hsz.out Hb3.out (t' := ⟨t.id, t.nm, t.key, t.nx, A3, cap3, t.cols⟩) HO3.out rfl)
        have Hb5 := Lib.hid (bput (hb.out.trans (Hb3.out.mono (Nat.le_trans Hb2.out.size hsz.out))) hg1 (k * 5 + 4) (.slice A3 t.cols.length cap3))
        have Hc5 : Hid ((w3.setCell ⟨g, k * 5 + 4, none⟩ (.slice A3 t.cols.length cap3)).cell? ⟨w1.heap.size, 0, none⟩ = some (.slice (some ⟨g, 0, none⟩) l.length cap1)) :=
          (Off.set w3 g (k * 5 + 4) _).keep ((Hb3.out.cell (p := ⟨w1.heap.size, 0, none⟩) (by have := Hs2.out; have := hsz.out; show w1.heap.size < _; omega)).trans hcx.out) (fun e => hgne e.symm)
        have Hs5 : Hid (w2.heap.size ≤ (w3.setCell ⟨g, k * 5 + 4, none⟩ (.slice A3 t.cols.length cap3)).heap.size) := Nat.le_trans hsz.out (Nat.le_trans Hb3.out.size (Off.set w3 g (k * 5 + 4) _).size)
        clear z4 f4 x0
        go_wp2_with fail
        go_roundw
        case rel => exact ⟨k + 1, m ++ [⟨t.id, t.nm, t.key, t.nx, A3, cap3, t.cols⟩], by omega, by go_num, HP3, Hb5, Hc5, Hs5⟩
        case measure => simp [intOf]; omega
    · have hlt' : decide ((k : Int) < (l.length : Int)) = false := by simp; omega
      obtain rfl : k = l.length := by omega
      have c0 := hcx.out
      have Hr : Hid (wr.heap[w.heap.size + 1]? = some (.cells #[.slice none 0 0] 37 (0, 0))) := (hb.out.block _ (by have := Hs0.out; omega)).trans Hr0.out
      have c1 : wr.cell? ⟨w.heap.size + 1, 0, none⟩ = some (.slice none 0 0) := by rw [cell_of_row wr _ 0 _ _ (0, 0) Hr.out]; rfl
      have Hc1 := Lib.hid c1
      have c2 : wr.frozen? ⟨w.heap.size + 1, 0, none⟩ = false := frozen_of_row wr _ 0 _ _ Hr.out
      have HO := Lib.hid (hp.out.done rfl (fun x hx => by have := Hg.out x hx; have := Hs2.out; omega) Hb2.out.size)
      have HO6 : Hid (OwnCat (wr.setCell ⟨w.heap.size + 1, 0, none⟩ (.slice A1 l.length cap1)) w.heap.size w2.heap.size (.slice A1 l.length cap1) m) := by
        refine (HO.out.1.to_off (Off.set wr _ 0 _) fun x hx e => ?_).mono' (by have := Hs0.out; omega)
        have := (HO.out.1.lt x hx).1
        have := Hs0.out
        omega
      have Hb6 : Hid (Below w.heap.size w (wr.setCell ⟨w.heap.size + 1, 0, none⟩ (.slice A1 l.length cap1))) := bput (bthen Hb0.out hb.out) (by omega) 0 _
      go_wp2_with fail
      refine bodyPost_ret (results_c1 rfl _ _ rfl (World.cell?_setCell_same _ _ _ Hc1.out)) rfl ?_
      exact ⟨A1, cap1, m, w2.heap.size, rfl, HO6.out, HO.out.2.1, HO.out.2.2, Hb6.out⟩
end Go.Proofs.YtlbdbaafmdikcaaGreatDoor

/-
  Contract of package ddl's appendColumn.
-/
namespace Go.Proofs.YtlbdbaafmdikcaaGreatDoor
open Go.RowKit

/-- why a column may not be added to a table; 0 -/
def acolE (l : List Cb) (c : Cb) : Int :=
  if rightN (bs c.nm) = true then (if (colP l c.nm).isSome = true then 14 else if rightT c.tk c.tm = true then (if presetD c.tk c.tm c.dk c.dn c.ds = true then 0 else 10) else 9) else 8
theorem UTab.off {S : Nat → Prop} {w w' : World} (h : UTab w) (hw : Off S w w') (h1 : ¬ S 0) (h2 : ¬ S 1) : UTab w' :=
  ⟨fun i hi => hw.keep (h.1 i hi) h1, fun i hi => hw.keep (h.2 i hi) h2⟩
theorem rowat_new {α : Type} {m : Nat} {f : α → List Value} (w : World) (x : α) (ty : TypeId) : RowAt m f (w.alloc (.cells (f x).toArray ty)) (w.alloc (.cells (f x).toArray ty)).heap.size (some ⟨w.heap.size, 0, none⟩) [x] := fun _ =>
  ⟨w.heap.size, 0, rfl, by simp, fun j y hj i v hv => by
    cases j with
    | succ j => simp at hj
    | zero =>
      simp at hj; subst hj
      simp [hv]⟩
/-- a table with one column more -/
def Tb.more (t : Tb) (A : Option Addr) (cap : Nat) (c : Cb) : Tb := ⟨t.id, t.nm, t.key, t.nx + 1, A, cap, t.cols ++ [{ c with id := t.nx }]⟩
theorem tab_cells {w : World} {B g cap k : Nat} {l : List Tb} {t : Tb} (h : OwnTb w B (.slice (some ⟨g, 0, none⟩) l.length cap) l) (hk : l[k]? = some t) :
    w.cell? ⟨g, k * 5, none⟩ = some (.int .i64 t.id) ∧ w.cell? ⟨g, k * 5 + 1, none⟩ = some (.string t.nm) ∧ w.cell? ⟨g, k * 5 + 2, none⟩ = some (.int .i64 t.key) ∧ w.cell? ⟨g, k * 5 + 3, none⟩ = some (.int .i64 t.nx) ∧ w.cell? ⟨g, k * 5 + 4, none⟩ = some (.slice t.A t.cols.length t.cap) :=
  ⟨h.cell lenT (i := 0) hk rfl, h.cell lenT (i := 1) hk rfl, h.cell lenT (i := 2) hk rfl, h.cell lenT (i := 3) hk rfl, h.cell lenT (i := 4) hk rfl⟩
theorem col_cells {w : World} {B g cap k n : Nat} {l : List Cb} {c : Cb} (h : OwnC w B (.slice (some ⟨g, 0, none⟩) n cap) l) (hn : n = l.length) (hk : l[k]? = some c) :
    w.cell? ⟨g, k * 8, none⟩ = some (.int .i64 c.id) ∧ w.cell? ⟨g, k * 8 + 1, none⟩ = some (.string c.nm) ∧ w.cell? ⟨g, k * 8 + 2, none⟩ = some (.int .i64 c.tk) ∧ w.cell? ⟨g, k * 8 + 3, none⟩ = some (.int .i64 c.tm) ∧
    w.cell? ⟨g, k * 8 + 4, none⟩ = some (.bool c.nl) ∧ w.cell? ⟨g, k * 8 + 5, none⟩ = some (.int .i64 c.dk) ∧ w.cell? ⟨g, k * 8 + 6, none⟩ = some (.int .i64 c.dn) ∧ w.cell? ⟨g, k * 8 + 7, none⟩ = some (.string c.ds) := by
  subst hn
  exact ⟨h.cell lenC (i := 0) hk rfl, h.cell lenC (i := 1) hk rfl, h.cell lenC (i := 2) hk rfl, h.cell lenC (i := 3) hk rfl, h.cell lenC (i := 4) hk rfl, h.cell lenC (i := 5) hk rfl, h.cell lenC (i := 6) hk rfl, h.cell lenC (i := 7) hk rfl⟩
/-- a column in its box -/
theorem box_colO (w : World) (c : Cb) : ∃ w0, w.alloc (.cells #[.int .i64 c.id, .string c.nm, .int .i64 c.tk, .int .i64 c.tm, .bool c.nl, .int .i64 c.dk, .int .i64 c.dn, .string c.ds] 59) = w0 ∧ Below w.heap.size w w0 ∧ OwnC w0 w.heap.size (.slice (some ⟨w.heap.size, 0, none⟩) 1 1) [c] ∧ w0.heap.size = w.heap.size + 1 :=
  ⟨_, rfl, below_one w _, OwnR.box _ _ fC lenC w c, by simp⟩
theorem one_cells {w : World} {B g : Nat} {c : Cb} (h : OwnC w B (.slice (some ⟨g, 0, none⟩) 1 1) [c]) :
    w.cell? ⟨g, 0, none⟩ = some (.int .i64 c.id) ∧ w.cell? ⟨g, 1, none⟩ = some (.string c.nm) ∧ w.cell? ⟨g, 2, none⟩ = some (.int .i64 c.tk) ∧ w.cell? ⟨g, 3, none⟩ = some (.int .i64 c.tm) ∧
    w.cell? ⟨g, 4, none⟩ = some (.bool c.nl) ∧ w.cell? ⟨g, 5, none⟩ = some (.int .i64 c.dk) ∧ w.cell? ⟨g, 6, none⟩ = some (.int .i64 c.dn) ∧ w.cell? ⟨g, 7, none⟩ = some (.string c.ds) := by
  have := col_cells (k := 0) h rfl rfl
  simpa using this
set_option maxRecDepth 100000 in
set_option maxHeartbeats 8000000 in
theorem acol_any (g cap k : Nat) (l : List Tb) (t : Tb) (c : Cb) (w : World) (B Bc : Nat) (ht : UTab w) (hO : OwnTb w B (.slice (some ⟨g, 0, none⟩) l.length cap) l) (hk : l[k]? = some t)
    (hC : OwnC w Bc (.slice t.A t.cols.length t.cap) t.cols) (hgB : g < Bc) (hBw : Bc ≤ w.heap.size) (hl : t.cols.length ≤ 1000000) (hc : c.nm.size ≤ 1000000) (hn0 : 0 ≤ t.nx) (hn1 : t.nx ≤ 1000000) :
    Calls Tryz.prog 75 #[.pointer (some ⟨g, k * 5, none⟩), CV c] w fun e w' => e = .returned (.int .i64 (acolE t.cols c)) ∧ (acolE t.cols c ≠ 0 → Below w.heap.size w w') ∧
      (acolE t.cols c = 0 → Off (fun x => x = g ∨ colBk t = some x) w w' ∧ ∃ A' cap', OwnTb w' B (.slice (some ⟨g, 0, none⟩) l.length cap) (l.set k (t.more A' cap' c)) ∧ OwnC w' Bc (.slice A' (t.cols.length + 1) cap') (t.cols ++ [{ c with id := t.nx }])) := by
  obtain ⟨w0, hw0, hb0, hX, hs0⟩ := box_colO w c
  have Hw0 := Lib.hid hw0; clear hw0
  have Hb0 := Lib.hid hb0
  have HO0 := Lib.hid (hO.below hb0); clear hO
  have HC0 := Lib.hid (hC.below hb0)
  have Hcb := Lib.hid (fun x (hx : colBk t = some x) => hC.lt x hx); clear hC
  have HT := Lib.hid (ht.below hb0 (Nat.le_refl _)); clear ht hb0
  have HX := Lib.hid hX
  have Hs0 := Lib.hid hs0; clear hs0
  have Hk := Lib.hid hk; clear hk
  have hgw : g < w.heap.size := by omega
  have HN := Lib.hid (nright_any c.nm w0 hc)
  have HH := Lib.hid (fun w' hA' => hascol_any t c.nm w' hA' hl)
  have HR := Lib.hid (fun w => tright_any c.tk c.tm w)
  have HF := Lib.hid (fun w ht => rdef_any c.tk c.tm c.dk c.dn c.ds w ht)
  have Hv : Hid (acolE t.cols c = if rightN (bs c.nm) = true then (if (colI t c.nm).isSome = true then 14 else if rightT c.tk c.tm = true then (if presetD c.tk c.tm c.dk c.dn c.ds = true then 0 else 10) else 9) else 8) := rfl
  generalize acolE t.cols c = E at Hv ⊢
  generalize rightN (bs c.nm) = b1 at HN Hv
  generalize (colI t c.nm).isSome = b2 at HH Hv
  generalize rightT c.tk c.tm = b3 at HR Hv
  generalize presetD c.tk c.tm c.dk c.dn c.ds = b4 at HF Hv
  rw [← Hw0.out] at HN
  obtain ⟨x0, x1, x2, x3, x4, x5, x6, x7⟩ := one_cells hX
  clear hX
  have HA0 : Hid (TabAt w0 w0.heap.size t) := HC0.out.at lenC
  have HAd : Hid (TabAt w0.drew w0.drew.heap.size t) := HA0.out
  cases b1
  · have He : Hid (E = 8) := Hv.out
    clear x0 x1 x2 x3 x4 x5 x6 x7
    go_enter Tryz.func75, Tryz.ntmps75
    go_wp2_with fail
    refine HN.out.mono ?_
    rintro e w1 ⟨rfl, hb1⟩
    rw [Hw0.out] at hb1
    subst hb1
    go_wp2_with fail
    go_ret
    exact ⟨by rw [He.out]; rfl, fun _ => Hb0.out, fun h => by rw [He.out] at h; cases h⟩
  obtain ⟨d0, d1, d2, d3, d4⟩ := tab_cells HO0.out Hk.out
  have Hsz : Hid (w.heap.size < w0.heap.size) := by show _ < _; have := Hs0.out; omega
  cases b2
  case true =>
    have He : Hid (E = 14) := Hv.out
    go_enter Tryz.func75, Tryz.ntmps75
    go_wp2_with fail
    refine HN.out.mono ?_
    rintro e w1 ⟨rfl, hb1⟩
    rw [Hw0.out] at hb1
    subst hb1
    go_wp2_with fail
    go_region_with (first
      | (go_at_call 106; refine (HH.out _ HAd.out).mono ?_; rintro e w2 ⟨rfl, hb2⟩; have Hb2 := Lib.hid (bthen Hb0.out ((Below.refl w0.heap.size w0).drew.trans hb2)); clear hb2)
      | fail)
    all_goals
      go_wp2_with fail
      go_ret
      exact ⟨by rw [He.out]; rfl, fun _ => Hb2.out, fun h => by rw [He.out] at h; cases h⟩
  cases b3
  · have He : Hid (E = 9) := Hv.out
    go_enter Tryz.func75, Tryz.ntmps75
    go_wp2_with fail
    refine HN.out.mono ?_
    rintro e w1 ⟨rfl, hb1⟩
    rw [Hw0.out] at hb1
    subst hb1
    go_wp2_with fail
    go_region_with (first
      | (go_at_call 106; refine (HH.out _ HAd.out).mono ?_; rintro e w2 ⟨rfl, hb2⟩; have Hb2 := Lib.hid ((Below.refl w0.heap.size w0).drew.trans hb2); clear hb2)
      | fail)
    all_goals
      obtain ⟨y0, y1, y2, y3, y4, y5, y6, y7⟩ := one_cells (HX.out.below Hb2.out)
      go_wp2_with fail
      refine (HR.out _).mono ?_
      rintro e w3 ⟨rfl, hb3⟩
      have Hb3 := Lib.hid (bthen (bthen Hb0.out Hb2.out) hb3); clear hb3
      go_wp2_with fail
      go_ret
      exact ⟨by rw [He.out]; rfl, fun _ => Hb3.out, fun h => by rw [He.out] at h; cases h⟩
  cases b4
  · have He : Hid (E = 10) := Hv.out
    go_enter Tryz.func75, Tryz.ntmps75
    go_wp2_with fail
    refine HN.out.mono ?_
    rintro e w1 ⟨rfl, hb1⟩
    rw [Hw0.out] at hb1
    subst hb1
    go_wp2_with fail
    go_region_with (first
      | (go_at_call 106; refine (HH.out _ HAd.out).mono ?_; rintro e w2 ⟨rfl, hb2⟩; have Hb2 := Lib.hid ((Below.refl w0.heap.size w0).drew.trans hb2); clear hb2)
      | fail)
    all_goals
      obtain ⟨y0, y1, y2, y3, y4, y5, y6, y7⟩ := one_cells (HX.out.below Hb2.out)
      go_wp2_with fail
      refine (HR.out _).mono ?_
      rintro e w3 ⟨rfl, hb3⟩
      have Hb3 := Lib.hid (bthen Hb2.out hb3); clear hb3
      clear y0 y1 y2 y3 y4 y5 y6 y7
      obtain ⟨y0, y1, y2, y3, y4, y5, y6, y7⟩ := one_cells (HX.out.below Hb3.out)
      go_wp2_with fail
      refine (HF.out _ (HT.out.below Hb3.out (Nat.le_refl _))).mono ?_
      rintro e w4 ⟨rfl, hb4⟩
      have Hb4 := Lib.hid (bthen (bthen Hb0.out Hb3.out) hb4); clear hb4
      go_wp2_with fail
      go_ret
      exact ⟨by rw [He.out]; rfl, fun _ => Hb4.out, fun h => by rw [He.out] at h; cases h⟩
  have He : Hid (E = 0) := Hv.out
  have hne : g ≠ w.heap.size := by omega
  have hne' : w.heap.size ≠ g := by omega
  have hnx : IntKind.i64.wrap (t.nx + 1) = t.nx + 1 := by rw [IntKind.wrap_i64]; omega
  go_enter Tryz.func75, Tryz.ntmps75
  go_wp2_with fail
  refine HN.out.mono ?_
  rintro e w1 ⟨rfl, hb1⟩
  rw [Hw0.out] at hb1
  subst hb1
  go_wp2_with fail
  go_region_with (first
    | (go_at_call 106; refine (HH.out _ HAd.out).mono ?_; rintro e w2 ⟨rfl, hb2⟩; have Hb2 := Lib.hid ((Below.refl w0.heap.size w0).drew.trans hb2); clear hb2)
    | fail)
  all_goals
    obtain ⟨y0, y1, y2, y3, y4, y5, y6, y7⟩ := one_cells (HX.out.below Hb2.out)
    go_wp2_with fail
    refine (HR.out _).mono ?_
    rintro e w3 ⟨rfl, hb3⟩
    have Hb3 := Lib.hid (bthen Hb2.out hb3); clear hb3
    clear y0 y1 y2 y3 y4 y5 y6 y7
    obtain ⟨y0, y1, y2, y3, y4, y5, y6, y7⟩ := one_cells (HX.out.below Hb3.out)
    go_wp2_with fail
    refine (HF.out _ (HT.out.below Hb3.out (Nat.le_refl _))).mono ?_
    rintro e w4 ⟨rfl, hb4⟩
    have Hb4 := Lib.hid (bthen Hb3.out hb4); clear hb4
    clear y0 y1 y2 y3 y4 y5 y6 y7 x0 x1 x2 x3 x4 x5 x6 x7 d0 d1 d2 d3 d4
    have HX4 := Lib.hid (HX.out.below Hb4.out)
    have HO4 := Lib.hid (HO0.out.below Hb4.out)
    have HC4 := Lib.hid (HC0.out.below Hb4.out)
    obtain ⟨y0, y1, y2, y3, y4, y5, y6, y7⟩ := one_cells HX4.out
    obtain ⟨d0, d1, d2, d3, d4⟩ := tab_cells HO4.out Hk.out
    have f0 := HX4.out.frozen 0
    have f1 := HO4.out.frozen (k * 5 + 3)
    obtain ⟨W, hW⟩ : ∃ W, (w4.setCell ⟨w.heap.size, 0, none⟩ (.int .i64 t.nx)).setCell ⟨g, k * 5 + 3, none⟩ (.int .i64 (t.nx + 1)) = W := ⟨_, rfl⟩
    have hof1 := Off.set w4 w.heap.size 0 (.int .i64 t.nx)
    have hof2 := Off.set (w4.setCell ⟨w.heap.size, 0, none⟩ (.int .i64 t.nx)) g (k * 5 + 3) (.int .i64 (t.nx + 1))
    have HXW : Hid (OwnC W w.heap.size (.slice (some ⟨w.heap.size, 0, none⟩) 1 1) [{ c with id := t.nx }]) := by
      have h1 := HX4.out.set1 lenC (k := 0) (i := 0) (x := c) (y := { c with id := t.nx }) (u := .int .i64 t.nx) rfl (by omega) rfl
      rw [← hW]
      exact OwnR.off h1 hof2 (fun x hx e => by simp [Value.ownBlock] at hx; omega)
    have HOW : Hid (OwnTb W B (.slice (some ⟨g, 0, none⟩) l.length cap) (l.set k { t with nx := t.nx + 1 })) := by
      have h1 := HO4.out.off hof1 (fun x hx e => by simp [Value.ownBlock] at hx; omega)
      have h2 := h1.set1 lenT (k := k) (i := 3) (x := t) (y := { t with nx := t.nx + 1 }) (u := .int .i64 (t.nx + 1)) Hk.out (by omega) rfl
      rw [← hW]; exact h2
    have HCW : Hid (OwnC W Bc (.slice t.A t.cols.length t.cap) t.cols) := by
      rw [← hW]
      refine (HC4.out.off hof1 fun x hx e => ?_).off hof2 fun x hx e => ?_
      · have := (Hcb.out x hx).2; omega
      · have := (Hcb.out x hx).1; omega
    have HoW : Hid (Off (fun x => x = g ∨ colBk t = some x) w W) := by
      have h1 : Off (fun x => x = g ∨ x = w.heap.size) w W := by
        rw [← hW]
        exact ((Off.behind (bthen Hb0.out Hb4.out) (hof1.mono fun x _ e => .inr e))).trans (hof2.mono fun x _ e => .inl e)
      exact h1.mono fun x hx e => by
        rcases e with e | e
        · exact .inl e
        · omega
    have HsW : Hid (w.heap.size < W.heap.size) := by
      show _ < _
      rw [← hW]
      exact Nat.lt_of_lt_of_le Hsz.out (Nat.le_trans Hb4.out.size (Nat.le_trans hof1.size hof2.size))
    have HW := Lib.hid hW
    clear hW hof1 hof2
    go_wp2_with fail
    rw [HW.out]
    clear y0 y1 y2 y3 y4 y5 y6 y7 d0 d1 d2 d3 d4 f0 f1
    obtain ⟨y0, y1, y2, y3, y4, y5, y6, y7⟩ := one_cells HXW.out
    have HkW : Hid ((l.set k { t with nx := t.nx + 1 })[k]? = some { t with nx := t.nx + 1 }) := by
      have h1 := (List.getElem?_eq_some_iff.1 Hk.out).1
      show _ = _
      rw [List.getElem?_set_self h1]
    have HOW' : Hid (OwnTb W B (.slice (some ⟨g, 0, none⟩) (l.set k { t with nx := t.nx + 1 }).length cap) (l.set k { t with nx := t.nx + 1 })) := by
      show OwnTb _ _ _ _
      rw [List.length_set]; exact HOW.out
    obtain ⟨d0, d1, d2, d3, d4⟩ := tab_cells HOW'.out HkW.out
    have hBW : Bc ≤ W.heap.size := by have := HsW.out; omega
    have k4 := fun o => keep_alloc d4 o
    have HgC : Hid (∀ x, colBk t = some x → x ≠ g) := fun x hx e => by have := (Hcb.out x hx).1; omega
    go_region_law (refine step_append_rows Tryz.underlying26 infoC rfl (by decide) (by decide) lenC oneC rfl (.tmp 45) (.tmp 47) rfl Bc _ t.cols (some ⟨W.heap.size, 0, none⟩) 1 1 [{ c with id := t.nx }] (World.ownsRow.alloc HCW.out _) (by simp [Act.eval]) (by simp [Act.eval]) rfl (fun h => by cases h) (rowat_new (m := 8) (f := fC) W { c with id := t.nx } 59) (by simp; omega) (by simp; omega) ?_; intro v1 w5 ho5 hg5; obtain ⟨A', cap', rfl, _, _, _⟩ := ho5.form; have hof5 : Off (fun x => colBk t = some x) W w5 := Off.behind (by go_grown) (Off.of_grown hg5); have HO5 := Lib.hid (OwnR.off HOW'.out hof5 (fun x hx e => HgC.out x e (by simpa [Value.ownBlock] using hx.symm))); have Hof5 := Lib.hid hof5; have HC5 := Lib.hid ho5; clear hof5 ho5 hg5; have z4 := (tab_cells HO5.out HkW.out).2.2.2.2; have f4 := HO5.out.frozen (k * 5 + 4))
    all_goals
      have HC6 := Lib.hid (OwnR.off HC5.out (Off.set w5 g (k * 5 + 4) (.slice A' (t.cols ++ [{ c with id := t.nx }]).length cap')) (fun x hx e => by have := (HC5.out.lt x hx).1; omega))
      have HO6 := Lib.hid (HO5.out.set1 lenT (k := k) (i := 4) (x := { t with nx := t.nx + 1 }) (y := t.more A' cap' c) (u := .slice A' (t.cols ++ [{ c with id := t.nx }]).length cap') HkW.out (by omega) rfl)
      rw [List.length_set, List.set_set] at HO6
      have Hof6 : Hid (Off (fun x => x = g ∨ colBk t = some x) w (w5.setCell ⟨g, k * 5 + 4, none⟩ (.slice A' (t.cols ++ [{ c with id := t.nx }]).length cap'))) :=
        (HoW.out.trans (Hof5.out.mono fun x _ e => .inr e)).trans ((Off.set w5 g (k * 5 + 4) _).mono fun x _ e => .inl e)
      have hle : (t.cols ++ [({ c with id := t.nx } : Cb)]).length = t.cols.length + 1 := by simp
      rw [hle] at HC6 HO6 Hof6
      clear hle z4 f4
      go_wp2_with fail
      go_ret
      exact ⟨by rw [He.out]; rfl, fun h => absurd He.out h, fun _ => ⟨Hof6.out, A', cap', HO6.out, HC6.out⟩⟩
end Go.Proofs.YtlbdbaafmdikcaaGreatDoor

/-
  Contracts of package ddl's rename and add.
-/
namespace Go.Proofs.YtlbdbaafmdikcaaGreatDoor
open Go.RowKit

/-- a change in its box -/
theorem box_ddl (w : World) (d : Db) : ∃ w0, w.alloc (.cells #[.int .i64 d.p.op, .string d.p.tb, .string d.p.co, .string d.p.to, .string d.p.key, .int .i64 d.p.tk, .int .i64 d.p.tm, .bool d.p.nl, .int .i64 d.p.dk, .int .i64 d.p.dn, .string d.p.ds, .slice d.A d.p.cols.length d.cap] 28) = w0 ∧ Below w.heap.size w w0 ∧ BlkN w0 w.heap.size (fD d) ∧ w0.heap.size = w.heap.size + 1 :=
  ⟨_, rfl, below_one w _, BlkN.new w _ (fD d) _ rfl, by simp⟩
theorem BlkN.ddl {w : World} {b : Nat} {d : Db} (h : BlkN w b (fD d)) : w.cell? ⟨b, 0, none⟩ = some (.int .i64 d.p.op) ∧ w.cell? ⟨b, 1, none⟩ = some (.string d.p.tb) ∧ w.cell? ⟨b, 2, none⟩ = some (.string d.p.co) ∧ w.cell? ⟨b, 3, none⟩ = some (.string d.p.to) ∧ w.cell? ⟨b, 4, none⟩ = some (.string d.p.key) ∧
    w.cell? ⟨b, 5, none⟩ = some (.int .i64 d.p.tk) ∧ w.cell? ⟨b, 6, none⟩ = some (.int .i64 d.p.tm) ∧ w.cell? ⟨b, 7, none⟩ = some (.bool d.p.nl) ∧ w.cell? ⟨b, 8, none⟩ = some (.int .i64 d.p.dk) ∧ w.cell? ⟨b, 9, none⟩ = some (.int .i64 d.p.dn) ∧ w.cell? ⟨b, 10, none⟩ = some (.string d.p.ds) ∧ w.cell? ⟨b, 11, none⟩ = some (.slice d.A d.p.cols.length d.cap) :=
  ⟨h 0 _ rfl, h 1 _ rfl, h 2 _ rfl, h 3 _ rfl, h 4 _ rfl, h 5 _ rfl, h 6 _ rfl, h 7 _ rfl, h 8 _ rfl, h 9 _ rfl, h 10 _ rfl, h 11 _ rfl⟩
/-- why a table may not be called otherwise -/
def renE (l : List Tb) (s : ByteArray) : Int := if rightN (bs s) = true then (if (l.findIdx? fun x => eqS x.nm s).isSome = true then 14 else 0) else 8
set_option maxRecDepth 100000 in
set_option maxHeartbeats 4000000 in
theorem rename_any (bx g cap k : Nat) (l : List Tb) (t : Tb) (s : ByteArray) (w : World) (B : Nat) (hO : OwnTb w B (.slice (some ⟨g, 0, none⟩) l.length cap) l) (hA : TabsAt w w.heap.size (some ⟨g, 0, none⟩) l) (hk : l[k]? = some t)
    (hbx : w.cell? ⟨bx, 0, none⟩ = some (.slice (some ⟨g, 0, none⟩) l.length cap)) (hl : l.length ≤ 1000000) (hs : s.size ≤ 1000000) :
    Calls Tryz.prog 54 #[.pointer (some ⟨bx, 0, none⟩), .int .i64 (k : Int), .string s] w fun e w' => e = .returned (.int .i64 (renE l s)) ∧ (renE l s ≠ 0 → Below w.heap.size w w') ∧
      (renE l s = 0 → Off (fun x => x = g) w w' ∧ OwnTb w' B (.slice (some ⟨g, 0, none⟩) l.length cap) (l.set k { t with nm := s })) := by
  have HO := Lib.hid hO; clear hO
  have Hk := Lib.hid hk
  have hkl := (List.getElem?_eq_some_iff.1 hk).1
  clear hk
  have Hbx := Lib.hid hbx
  have HN := Lib.hid (nright_any s w hs)
  have HH := Lib.hid (hastab_any (some ⟨g, 0, none⟩) cap l s w hA hl)
  clear hA
  have Hv : Hid (renE l s = if rightN (bs s) = true then (if (l.findIdx? fun x => eqS x.nm s).isSome = true then 14 else 0) else 8) := rfl
  generalize renE l s = E at Hv ⊢
  generalize rightN (bs s) = b1 at HN Hv
  generalize (l.findIdx? fun x => eqS x.nm s).isSome = b2 at HH Hv
  cases b1
  · have He : Hid (E = 8) := Hv.out
    go_enter Tryz.func54, Tryz.ntmps54
    go_wp2_with fail
    refine HN.out.mono ?_
    rintro e w1 ⟨rfl, rfl⟩
    go_wp2_with fail
    go_ret
    exact ⟨by rw [He.out]; rfl, fun _ => Below.refl _ _, fun h => by rw [He.out] at h; cases h⟩
  cases b2
  case true =>
    have He : Hid (E = 14) := Hv.out
    go_enter Tryz.func54, Tryz.ntmps54
    go_wp2_with fail
    refine HN.out.mono ?_
    rintro e w1 ⟨rfl, rfl⟩
    go_wp2_with fail
    refine HH.out.mono ?_
    rintro e w2 ⟨rfl, hb2⟩
    have Hb2 := Lib.hid hb2; clear hb2
    go_wp2_with fail
    go_ret
    exact ⟨by rw [He.out]; rfl, fun _ => Hb2.out, fun h => by rw [He.out] at h; cases h⟩
  have He : Hid (E = 0) := Hv.out
  have hk0 : (0 : Int) ≤ (k : Int) := by omega
  have hkI : (k : Int) < (l.length : Int) := by omega
  go_enter Tryz.func54, Tryz.ntmps54
  go_wp2_with fail
  refine HN.out.mono ?_
  rintro e w1 ⟨rfl, rfl⟩
  go_wp2_with fail
  refine HH.out.mono ?_
  rintro e w2 ⟨rfl, hb2⟩
  have c0 := (hb2.cell (p := ⟨bx, 0, none⟩) (World.block_lt_of_cell? w _ Hbx.out)).trans Hbx.out
  have Hb2 := Lib.hid hb2; clear hb2 hbx
  have HO2 := Lib.hid (HO.out.below Hb2.out)
  obtain ⟨_, d1, _, _, _⟩ := tab_cells HO2.out Hk.out
  have f1 := HO2.out.frozen (k * 5 + 1)
  have HE := Lib.hid (HO2.out.set1 lenT (k := k) (i := 1) (x := t) (y := { t with nm := s }) (u := .string s) Hk.out (by omega) rfl)
  have HoE := Lib.hid (Off.behind Hb2.out (Off.set w2 g (k * 5 + 1) (.string s)))
  go_wp2_with fail
  go_ret
  exact ⟨by rw [He.out]; rfl, fun h => absurd He.out h, fun _ => ⟨HoE.out, HE.out⟩⟩
/-- the column of a change -/
def Dp.col (d : Dp) : Cb := ⟨0, d.co, d.tk, d.tm, d.nl, d.dk, d.dn, d.ds⟩
theorem addE_acol {t : Tb} {d : Dp} (h1 : t.cols.length ≤ 10) (h2 : t.nx ≤ 200) (h3 : ¬ (t.cols.length = 10 ∨ t.nx = 200)) :
    addE t.p d = if acolE t.cols d.col = 0 then (if d.nl = false ∧ nulV d.dk d.dn d.ds = true then 11 else 0) else acolE t.cols d.col := by
  unfold addE acolE
  rw [if_neg (show ¬ (10 ≤ t.p.cols.length ∨ 200 ≤ t.p.nx) by show ¬ (10 ≤ t.cols.length ∨ 200 ≤ t.nx); omega)]
  show (if rightN (bs d.co) = true then (if (colP t.cols d.co).isSome = true then 14 else if rightT d.tk d.tm = true then (if presetD d.tk d.tm d.dk d.dn d.ds = true then (if d.nl = false ∧ nulV d.dk d.dn d.ds = true then 11 else 0) else 10) else 9) else 8) =
    if (if rightN (bs d.co) = true then (if (colP t.cols d.co).isSome = true then 14 else if rightT d.tk d.tm = true then (if presetD d.tk d.tm d.dk d.dn d.ds = true then 0 else 10) else 9) else 8) = (0 : Int) then _ else (if rightN (bs d.co) = true then (if (colP t.cols d.co).isSome = true then 14 else if rightT d.tk d.tm = true then (if presetD d.tk d.tm d.dk d.dn d.ds = true then 0 else 10) else 9) else 8)
  cases rightN (bs d.co) <;> cases (colP t.cols d.co).isSome <;> cases rightT d.tk d.tm <;> cases presetD d.tk d.tm d.dk d.dn d.ds <;> rfl
set_option maxRecDepth 100000 in
set_option maxHeartbeats 4000000 in
theorem add_any (g cap k : Nat) (l : List Tb) (t : Tb) (d : Db) (w : World) (B Bc : Nat) (ht : UTab w) (hO : OwnTb w B (.slice (some ⟨g, 0, none⟩) l.length cap) l) (hk : l[k]? = some t)
    (hC : OwnC w Bc (.slice t.A t.cols.length t.cap) t.cols) (hgB : g < Bc) (hBw : Bc ≤ w.heap.size) (hl : t.cols.length ≤ 10) (hc : d.p.co.size ≤ 1000000) (hn0 : 0 ≤ t.nx) (hn1 : t.nx ≤ 200) :
    Calls Tryz.prog 55 #[.pointer (some ⟨g, k * 5, none⟩), DV d] w fun e w' => e = .returned (.int .i64 (addE t.p d.p)) ∧ Off (fun x => x = g ∨ colBk t = some x) w w' ∧
      (addE t.p d.p = 0 → ∃ A' cap', OwnTb w' B (.slice (some ⟨g, 0, none⟩) l.length cap) (l.set k (t.more A' cap' d.p.col)) ∧ OwnC w' Bc (.slice A' (t.cols.length + 1) cap') (t.cols ++ [{ d.p.col with id := t.nx }])) := by
  obtain ⟨w0, hw0, hb0, hX, hs0⟩ := box_ddl w d
  have Hw0 := Lib.hid hw0; clear hw0
  have Hb0 := Lib.hid hb0
  obtain ⟨_, _, _, e3, e4⟩ := tab_cells hO hk
  have d3 := fun o => keep_alloc e3 o
  have d4 := fun o => keep_alloc e4 o
  clear e3 e4
  have HO0 := Lib.hid (hO.below hb0); clear hO
  have HC0 := Lib.hid (hC.below hb0); clear hC
  have HT := Lib.hid (ht.below hb0 (Nat.le_refl _)); clear ht hb0
  have HX := Lib.hid hX
  have Hs0 := Lib.hid hs0; clear hs0
  have Hk := Lib.hid hk; clear hk
  have hgw : g < w.heap.size := by omega
  obtain ⟨x0, x1, x2, x3, x4, x5, x6, x7, x8, x9, x10, x11⟩ := hX.ddl
  clear hX x0 x1 x2 x3 x4 x5 x6 x7 x8 x9 x10 x11
  by_cases h10 : t.cols.length = 10
  · have He : Hid (addE t.p d.p = 3) := by show _ = _; unfold addE; rw [if_pos (show 10 ≤ t.p.cols.length ∨ 200 ≤ t.p.nx by show 10 ≤ t.cols.length ∨ 200 ≤ t.nx; omega)]
    generalize addE t.p d.p = E at He ⊢
    have hq : ((t.cols.length : Int) == 10) = true := by simp; omega
    clear h10 hl
    go_enter Tryz.func55, Tryz.ntmps55
    go_wp2_with fail
    rw [Hw0.out]
    go_ret
    exact ⟨by rw [He.out]; rfl, .of_below Hb0.out, fun h => by rw [He.out] at h; cases h⟩
  have hq : ((t.cols.length : Int) == 10) = false := by simp; omega
  by_cases h200 : t.nx = 200
  · have He : Hid (addE t.p d.p = 3) := by show _ = _; unfold addE; rw [if_pos (show 10 ≤ t.p.cols.length ∨ 200 ≤ t.p.nx by show 10 ≤ t.cols.length ∨ 200 ≤ t.nx; omega)]
    generalize addE t.p d.p = E at He ⊢
    have hq2 : (t.nx == 200) = true := by simp; omega
    clear h10 hl h200
    go_enter Tryz.func55, Tryz.ntmps55
    go_wp2_with fail
    rw [Hw0.out]
    go_ret
    exact ⟨by rw [He.out]; rfl, .of_below Hb0.out, fun h => by rw [He.out] at h; cases h⟩
  have hq2 : (t.nx == 200) = false := by simp; omega
  obtain ⟨w1, hw1, hb1, hY, hs1⟩ := box_colO w0 d.p.col
  have Hw1 := Lib.hid hw1; clear hw1
  have Hb1 := Lib.hid hb1
  rw [Hs0.out] at hY
  have HY := Lib.hid hY; clear hY
  have Hs1 := Lib.hid hs1; clear hs1
  have HA := Lib.hid (acol_any g cap k l t d.p.col w1 B Bc (HT.out.below hb1 (Nat.le_refl _)) (HO0.out.below hb1) Hk.out (HC0.out.below hb1) hgB (Nat.le_trans hBw (Nat.le_trans Hb0.out.size hb1.size)) (by omega) hc hn0 (by omega))
  clear hb1
  rw [← Hw1.out, ← Hw0.out] at HA
  have He := Lib.hid (addE_acol (d := d.p) hl hn1 (by omega))
  generalize addE t.p d.p = E at He ⊢
  generalize acolE t.cols d.p.col = F at HA He
  unfold Dp.col at HA
  have Hcb := Lib.hid (fun x (hx : colBk t = some x) => (HC0.out.lt x hx).2)
  clear h10 h200 hl
  have HN := Lib.hid (fun w => dnull_any d.p.dk d.p.dn d.p.ds w)
  by_cases hF : F = 0
  · subst hF
    rw [if_pos rfl] at He
    go_enter Tryz.func55, Tryz.ntmps55
    go_wp2_with fail
    refine HA.out.mono ?_
    rintro e w2 ⟨rfl, _, hok⟩
    obtain ⟨hof, A', cap', ho2, hc2⟩ := hok trivial
    rw [Hw0.out, show (w0.alloc (.cells #[.int .i64 0, .string d.p.co, .int .i64 d.p.tk, .int .i64 d.p.tm, .bool d.p.nl, .int .i64 d.p.dk, .int .i64 d.p.dn, .string d.p.ds] 59)) = w1 from Hw1.out] at hof
    have HY2 : Hid (OwnC w2 (w.heap.size + 1) (.slice (some ⟨w.heap.size + 1, 0, none⟩) 1 1) [d.p.col]) := OwnR.off HY.out hof (fun x hx e => by
      simp [Value.ownBlock] at hx
      rcases e with e | e
      · omega
      · have := Hcb.out x e; have := Hs0.out; omega)
    have Hof := Lib.hid ((Off.behind Hb0.out (Off.behind Hb1.out hof)))
    have HO2 := Lib.hid ho2
    have HC2 := Lib.hid hc2
    clear hok hof ho2 hc2
    obtain ⟨_, _, _, _, y4, y5, y6, y7⟩ := one_cells HY2.out
    cases hnl : d.p.nl
    · have y4' : w2.cell? ⟨w.heap.size + 1, 4, none⟩ = some (.bool false) := by rw [y4]; show some (Value.bool d.p.nl) = _; rw [hnl]
      rw [hnl] at He
      have Hn2 := Lib.hid (HN.out w2)
      have He2 : Hid (E = if nulV d.p.dk d.p.dn d.p.ds = true then 11 else 0) := by show _ = _; rw [He.out]; simp
      generalize nulV d.p.dk d.p.dn d.p.ds = nb at Hn2 He2
      clear y4 He
      cases nb
      · have He3 : Hid (E = 0) := He2.out
        go_wp2_with fail
        refine Hn2.out.mono ?_
        rintro e w3 ⟨rfl, hb3⟩
        have HoE := Lib.hid (Hof.out.then hb3)
        have HO3 := Lib.hid (HO2.out.below hb3)
        have HC3 := Lib.hid (HC2.out.below hb3); clear hb3
        go_wp2_with fail
        go_ret
        exact ⟨by rw [He3.out]; rfl, HoE.out, fun _ => ⟨A', cap', HO3.out, HC3.out⟩⟩
      · have He3 : Hid (E = 11) := He2.out
        go_wp2_with fail
        refine Hn2.out.mono ?_
        rintro e w3 ⟨rfl, hb3⟩
        have HoE := Lib.hid (Hof.out.then hb3); clear hb3
        go_wp2_with fail
        go_ret
        exact ⟨by rw [He3.out]; rfl, HoE.out, fun h => by rw [He3.out] at h; cases h⟩
    · have y4' : w2.cell? ⟨w.heap.size + 1, 4, none⟩ = some (.bool true) := by rw [y4]; show some (Value.bool d.p.nl) = _; rw [hnl]
      rw [hnl] at He
      have He3 : Hid (E = 0) := by show _ = _; rw [He.out]; simp
      clear y4 He
      go_wp2_with fail
      go_ret
      exact ⟨by rw [He3.out]; rfl, Hof.out, fun _ => ⟨A', cap', HO2.out, HC2.out⟩⟩
  · rw [if_neg hF] at He
    have hz0 : (F == 0) = false := by simpa using hF
    have hz1 : (F != 0) = true := by rw [bne, hz0]; rfl
    have HF := Lib.hid hF
    clear hF
    go_enter Tryz.func55, Tryz.ntmps55
    go_wp2_with fail
    refine HA.out.mono ?_
    rintro e w2 ⟨rfl, hbad, _⟩
    have hb2 := hbad HF.out
    rw [Hw0.out, show (w0.alloc (.cells #[.int .i64 0, .string d.p.co, .int .i64 d.p.tk, .int .i64 d.p.tm, .bool d.p.nl, .int .i64 d.p.dk, .int .i64 d.p.dn, .string d.p.ds] 59)) = w1 from Hw1.out] at hb2
    have Hb2 := Lib.hid (bthen (bthen Hb0.out Hb1.out) hb2)
    clear hb2 hbad
    go_wp2_with fail
    go_ret
    exact ⟨by rw [He.out]; rfl, .of_below Hb2.out, fun h => absurd (He.out.symm.trans h) HF.out⟩
end Go.Proofs.YtlbdbaafmdikcaaGreatDoor

/-
  Contracts of package ddl's partsOf, withId and Plain.
-/
namespace Go.Proofs.YtlbdbaafmdikcaaGreatDoor
open Go.RowKit

/-- the parts of a change that are compared at once -/
structure Pp where
  op : Int
  tb : ByteArray
  co : ByteArray
  to : ByteArray
  key : ByteArray
  tk : Int
  tm : Int
  nl : Bool
  dk : Int
  dn : Int
  ds : ByteArray
  n : Int
abbrev PV (p : Pp) : Value := .agg #[.int .i64 p.op, .string p.tb, .string p.co, .string p.to, .string p.key, .int .i64 p.tk, .int .i64 p.tm, .bool p.nl, .int .i64 p.dk, .int .i64 p.dn, .string p.ds, .int .i64 p.n]
def eqP (a b : Pp) : Bool := (a.op == b.op) && (eqS a.tb b.tb && (eqS a.co b.co && (eqS a.to b.to && (eqS a.key b.key && ((a.tk == b.tk) && ((a.tm == b.tm) && ((a.nl == b.nl) && ((a.dk == b.dk) && ((a.dn == b.dn) && (eqS a.ds b.ds && (a.n == b.n)))))))))))
set_option maxRecDepth 100000 in
set_option maxHeartbeats 1000000 in
theorem run_eql_P (w : World) (a b : Pp) : (binOp .eql 55 (PV a) (PV b)).run Tryz.prog w = .ok (.bool (eqP a b)) w := by
  unfold eqP
  cases h0 : (a.op == b.op)
  · simp [go_sem, h0]
  cases h1 : (a.tb.toList == b.tb.toList)
  · simp [go_sem, h0, h1]
  cases h2 : (a.co.toList == b.co.toList)
  · simp [go_sem, h0, h1, h2]
  cases h3 : (a.to.toList == b.to.toList)
  · simp [go_sem, h0, h1, h2, h3]
  cases h4 : (a.key.toList == b.key.toList)
  · simp [go_sem, h0, h1, h2, h3, h4]
  cases h5 : (a.tk == b.tk)
  · simp [go_sem, h0, h1, h2, h3, h4, h5]
  cases h6 : (a.tm == b.tm)
  · simp [go_sem, h0, h1, h2, h3, h4, h5, h6]
  cases h7 : (a.nl == b.nl)
  · simp [go_sem, h0, h1, h2, h3, h4, h5, h6, h7]
  cases h8 : (a.dk == b.dk)
  · simp [go_sem, h0, h1, h2, h3, h4, h5, h6, h7, h8]
  cases h9 : (a.dn == b.dn)
  · simp [go_sem, h0, h1, h2, h3, h4, h5, h6, h7, h8, h9]
  cases h10 : (a.ds.toList == b.ds.toList)
  · simp [go_sem, h0, h1, h2, h3, h4, h5, h6, h7, h8, h9, h10]
  cases h11 : (a.n == b.n)
  · simp [go_sem, h0, h1, h2, h3, h4, h5, h6, h7, h8, h9, h10, h11]
  simp [go_sem, h0, h1, h2, h3, h4, h5, h6, h7, h8, h9, h10, h11]
def Db.parts (d : Db) : Pp := ⟨d.p.op, d.p.tb, d.p.co, d.p.to, d.p.key, d.p.tk, d.p.tm, d.p.nl, d.p.dk, d.p.dn, d.p.ds, (d.p.cols.length : Int)⟩
set_option maxRecDepth 100000 in
theorem parts_any (d : Db) (w : World) : Calls Tryz.prog 24 #[DV d] w fun e w' => e = .returned (PV d.parts) ∧ Below w.heap.size w w' := by
  go_enter Tryz.func24, Tryz.ntmps24
  go_wp2_with fail
  go_returns
  exact ⟨rfl, by go_grown⟩
set_option maxRecDepth 100000 in
set_option maxHeartbeats 1000000 in
theorem withId_any (A : Option Addr) (cp : Nat) (l : List Cb) (w : World) (hA : ColsAt w w.heap.size A l) (hl : l.length ≤ 1000000) :
    Calls Tryz.prog 25 #[.slice A l.length cp] w fun e w' => e = .returned (.int .i64 ((l.countP fun c => c.id != 0 : Nat) : Int)) ∧ Below w.heap.size w w' := by
  have HA := Lib.hid hA; clear hA
  go_enter Tryz.func25, Tryz.ntmps25
  go_wp2_with fail
  go_loopw [3, 8] (fun v i wr => ∃ k : Nat, k ≤ l.length ∧ i = .int .i64 k ∧ v = .int .i64 (((l.take k).countP fun c => c.id != 0 : Nat) : Int) ∧ Hid (Below w.heap.size w wr)) (fun _ i _ => l.length - (intOf i).toNat)
  case atStart => exact ⟨0, by omega, rfl, by simp, Below.refl _ _⟩
  case round =>
    obtain ⟨k, hk, rfl, rfl, hb⟩ := hrel
    by_cases hlt : k < l.length
    · obtain ⟨c, hc⟩ : ∃ c, l[k]? = some c := ⟨l[k], by simp [hlt]⟩
      have Hn := Lib.hid (countP_take (fun c : Cb => c.id != 0) l k c hc)
      have hle : (l.take k).countP (fun c : Cb => c.id != 0) ≤ k := Nat.le_trans List.countP_le_length (by rw [List.length_take]; omega)
      obtain ⟨b, off, rfl, hbB, d0, d1, d2, d3, d4, d5, d6, d7⟩ := ColsAt.get (RowAt.below HA.out hb.out) k c hc
      obtain ⟨w2, hw2, hb2, hX, hs2⟩ := box_col wr c
      have Hw2 := Lib.hid hw2; clear hw2
      have Hb2 := Lib.hid (bthen hb.out hb2); clear hb2 hX hs2 hc
      generalize (l.take k).countP (fun c : Cb => c.id != 0) = q at Hn hle ⊢
      cases hz : c.id != 0
      · have hd := hz
        rw [hz] at Hn
        clear hd
        go_wp2_with fail
        rw [Hw2.out]
        go_round
        case rel => exact ⟨k + 1, by omega, by go_num, by rw [Hn.out]; go_num, Hb2.out⟩
        case measure => simp [intOf]; omega
      · rw [hz] at Hn
        go_wp2_with fail
        rw [Hw2.out]
        go_round
        case rel => exact ⟨k + 1, by omega, by go_num, by rw [Hn.out]; go_num, Hb2.out⟩
        case measure => simp [intOf]; omega
    · have hlt' : decide ((k : Int) < (l.length : Int)) = false := by simp; omega
      obtain rfl : k = l.length := by omega
      have He : Hid (l.take l.length = l) := List.take_length
      generalize hq : (l.take l.length).countP (fun c : Cb => c.id != 0) = q
      rw [He.out] at hq
      have Hq := Lib.hid hq
      clear hq
      go_wp2_with fail
      go_ret
      exact ⟨by rw [Hq.out]; rfl, hb.out⟩
theorem countP_zero (l : List Cb) : (((l.countP fun c => c.id != 0 : Nat) : Int) == 0) = l.all fun c => c.id == 0 := by
  apply bool_eq
  rw [beq_iff_eq, List.all_eq_true]
  constructor
  · intro h c hc
    have h0 : (l.countP fun c => c.id != 0) = 0 := by omega
    rw [List.countP_eq_zero] at h0
    have := h0 c hc
    simpa using this
  · intro h
    have h0 : (l.countP fun c => c.id != 0) = 0 := by
      rw [List.countP_eq_zero]
      intro c hc
      have := h c hc
      simpa using this
    omega
theorem len_zero (l : List Cb) : ((l.length : Int) == 0) = l.isEmpty := by cases l <;> rfl
/-- the parts that a change of its kind does not have -/
def restP (d : Dp) (n : Int) : Pp :=
  if d.op = 1 then ⟨0, ⟨#[]⟩, d.co, d.to, ⟨#[]⟩, d.tk, d.tm, d.nl, d.dk, d.dn, d.ds, ((d.cols.countP fun c => c.id != 0 : Nat) : Int)⟩
  else if d.op = 2 then ⟨0, ⟨#[]⟩, d.co, d.to, d.key, d.tk, d.tm, d.nl, d.dk, d.dn, d.ds, n⟩
  else if d.op = 3 then ⟨0, ⟨#[]⟩, d.co, ⟨#[]⟩, d.key, d.tk, d.tm, d.nl, d.dk, d.dn, d.ds, n⟩
  else if d.op = 4 then ⟨0, ⟨#[]⟩, ⟨#[]⟩, d.to, d.key, 0, 0, false, 0, 0, ⟨#[]⟩, n⟩
  else if d.op = 5 then ⟨0, ⟨#[]⟩, ⟨#[]⟩, d.to, d.key, d.tk, d.tm, d.nl, d.dk, d.dn, d.ds, n⟩
  else if d.op = 6 then ⟨0, ⟨#[]⟩, ⟨#[]⟩, ⟨#[]⟩, d.key, d.tk, d.tm, d.nl, d.dk, d.dn, d.ds, n⟩
  else if d.op = 7 then ⟨0, ⟨#[]⟩, ⟨#[]⟩, d.to, d.key, 0, 0, d.nl, d.dk, d.dn, d.ds, n⟩
  else ⟨0, ⟨#[]⟩, ⟨#[]⟩, d.to, d.key, d.tk, d.tm, d.nl, 0, 0, ⟨#[]⟩, n⟩
def zeroP : Pp := ⟨0, ⟨#[]⟩, ⟨#[]⟩, ⟨#[]⟩, ⟨#[]⟩, 0, 0, false, 0, 0, ⟨#[]⟩, 0⟩
set_option linter.unusedSimpArgs false in
theorem rest_plain (d : Dp) (h : 1 ≤ d.op ∧ d.op ≤ 8) : eqP (restP d (d.cols.length : Int)) zeroP = plainD d := by
  have hnl : ∀ b : Bool, (b == false) = !b := fun b => by cases b <;> rfl
  have hz : ∀ s : ByteArray, eqS s (⟨#[]⟩ : ByteArray) = emp s := fun s => rfl
  have hzz : emp (⟨#[]⟩ : ByteArray) = true := eqS_self _
  have hzd : zDf d = ((d.dk == 0) && ((d.dn == 0) && emp d.ds)) := rfl
  have hzt : zTy d = ((d.tk == 0) && (d.tm == 0)) := rfl
  have hzc : zCo d = d.cols.isEmpty := rfl
  by_cases e : d.op = 1
  · unfold plainD restP eqP zeroP
    rw [if_pos e, if_pos e]
    simp only [hnl, hz, hzz, hzd, hzt, hzc, countP_zero, len_zero, beq_self_eq_true, Bool.and_assoc, Bool.true_and, Bool.not_false]
  by_cases e : d.op = 2
  · unfold plainD restP eqP zeroP
    rw [if_neg (by omega), if_pos e, if_neg (by omega), if_pos e]
    simp only [hnl, hz, hzz, hzd, hzt, hzc, countP_zero, len_zero, beq_self_eq_true, Bool.and_assoc, Bool.true_and, Bool.not_false]
  by_cases e : d.op = 3
  · unfold plainD restP eqP zeroP
    rw [if_neg (by omega), if_neg (by omega), if_pos e, if_neg (by omega), if_neg (by omega), if_pos e]
    simp only [hnl, hz, hzz, hzd, hzt, hzc, countP_zero, len_zero, beq_self_eq_true, Bool.and_assoc, Bool.true_and, Bool.not_false]
  by_cases e : d.op = 4
  · unfold plainD restP eqP zeroP
    rw [if_neg (by omega), if_neg (by omega), if_neg (by omega), if_pos e, if_neg (by omega), if_neg (by omega), if_neg (by omega), if_pos e]
    simp only [hnl, hz, hzz, hzd, hzt, hzc, countP_zero, len_zero, beq_self_eq_true, Bool.and_assoc, Bool.true_and, Bool.not_false]
  by_cases e : d.op = 5
  · unfold plainD restP eqP zeroP
    rw [if_neg (by omega), if_neg (by omega), if_neg (by omega), if_neg (by omega), if_pos e, if_neg (by omega), if_neg (by omega), if_neg (by omega), if_neg (by omega), if_pos e]
    simp only [hnl, hz, hzz, hzd, hzt, hzc, countP_zero, len_zero, beq_self_eq_true, Bool.and_assoc, Bool.true_and, Bool.not_false]
  by_cases e : d.op = 6
  · unfold plainD restP eqP zeroP
    rw [if_neg (by omega), if_neg (by omega), if_neg (by omega), if_neg (by omega), if_neg (by omega), if_pos e, if_neg (by omega), if_neg (by omega), if_neg (by omega), if_neg (by omega), if_neg (by omega), if_pos e]
    simp only [hnl, hz, hzz, hzd, hzt, hzc, countP_zero, len_zero, beq_self_eq_true, Bool.and_assoc, Bool.true_and, Bool.not_false]
  by_cases e : d.op = 7
  · unfold plainD restP eqP zeroP
    rw [if_neg (by omega), if_neg (by omega), if_neg (by omega), if_neg (by omega), if_neg (by omega), if_neg (by omega), if_pos e, if_neg (by omega), if_neg (by omega), if_neg (by omega), if_neg (by omega), if_neg (by omega), if_neg (by omega), if_pos e]
    simp only [hnl, hz, hzz, hzd, hzt, hzc, countP_zero, len_zero, beq_self_eq_true, Bool.and_assoc, Bool.true_and, Bool.not_false]
  by_cases e : d.op = 8
  · unfold plainD restP eqP zeroP
    rw [if_neg (by omega), if_neg (by omega), if_neg (by omega), if_neg (by omega), if_neg (by omega), if_neg (by omega), if_neg (by omega), if_neg (by omega), if_neg (by omega), if_neg (by omega), if_neg (by omega), if_neg (by omega), if_neg (by omega), if_neg (by omega), if_pos e]
    simp only [hnl, hz, hzz, hzd, hzt, hzc, countP_zero, len_zero, beq_self_eq_true, Bool.and_assoc, Bool.true_and, Bool.not_false]
  omega
end Go.Proofs.YtlbdbaafmdikcaaGreatDoor

/-
  Contract of package ddl's Plain.
-/
namespace Go.Proofs.YtlbdbaafmdikcaaGreatDoor
open Go.RowKit

theorem plainD_no (d : Dp) (h : ¬ (1 ≤ d.op ∧ d.op ≤ 8)) : plainD d = false := by
  cases hp : plainD d with
  | false => rfl
  | true => exact absurd (plainD_op hp) h
set_option maxRecDepth 100000 in
set_option maxHeartbeats 3000000 in
theorem dplain_any (d : Db) (w : World) (hD : DdlAt w w.heap.size d) (hl : d.p.cols.length ≤ 1000000) : Calls Tryz.prog 8 #[DV d] w fun e w' => e = .returned (.bool (plainD d.p)) ∧ Below w.heap.size w w' := by
  obtain ⟨w0, hw0, hb0, hX, hs0⟩ := box_ddl w d
  have Hw0 := Lib.hid hw0; clear hw0
  have Hb0 := Lib.hid hb0
  have HD0 := Lib.hid (hD.to hb0); clear hD hb0
  have HX := Lib.hid hX; clear hX
  have Hs0 := Lib.hid hs0; clear hs0
  have HP := Lib.hid (parts_any d w0)
  rw [← Hw0.out] at HP
  have HI := Lib.hid (fun w' hA' => withId_any d.A d.cap d.p.cols w' hA' hl)
  have q : ∀ (w : World) (v_op : Int) (v_tb : ByteArray) (v_co : ByteArray) (v_to : ByteArray) (v_key : ByteArray) (v_tk : Int) (v_tm : Int) (v_nl : Bool) (v_dk : Int) (v_dn : Int) (v_ds : ByteArray) (v_n : Int), (binOp .eql 55 (.agg #[.int .i64 v_op, .string v_tb, .string v_co, .string v_to, .string v_key, .int .i64 v_tk, .int .i64 v_tm, .bool v_nl, .int .i64 v_dk, .int .i64 v_dn, .string v_ds, .int .i64 v_n]) (.agg #[.int .i64 0, .string ⟨#[]⟩, .string ⟨#[]⟩, .string ⟨#[]⟩, .string ⟨#[]⟩, .int .i64 0, .int .i64 0, .bool false, .int .i64 0, .int .i64 0, .string ⟨#[]⟩, .int .i64 0])).run Tryz.prog w = .ok (.bool (eqP ⟨v_op, v_tb, v_co, v_to, v_key, v_tk, v_tm, v_nl, v_dk, v_dn, v_ds, v_n⟩ zeroP)) w := fun w v_op v_tb v_co v_to v_key v_tk v_tm v_nl v_dk v_dn v_ds v_n => run_eql_P w ⟨v_op, v_tb, v_co, v_to, v_key, v_tk, v_tm, v_nl, v_dk, v_dn, v_ds, v_n⟩ zeroP
  by_cases e1 : d.p.op = 1
  · have e := e1
    have Hv : Hid (plainD d.p = eqP (restP d.p (d.p.cols.length : Int)) zeroP) := (rest_plain d.p (by omega)).symm
    have Hr : Hid (restP d.p (d.p.cols.length : Int) = ⟨0, ⟨#[]⟩, d.p.co, d.p.to, ⟨#[]⟩, d.p.tk, d.p.tm, d.p.nl, d.p.dk, d.p.dn, d.p.ds, ((d.p.cols.countP fun c => c.id != 0 : Nat) : Int)⟩) := by show _ = _; unfold restP; rw [if_pos e]
    rw [Hr.out] at Hv
    generalize plainD d.p = R at Hv ⊢
    have q1 : (d.p.op == 1) = true := by rw [beq_iff_eq]; exact e
    clear e e1
    go_enter Tryz.func8, Tryz.ntmps8
    go_wp2_with fail
    refine HP.out.mono ?_
    rintro e w1 ⟨rfl, hb1⟩
    rw [Hw0.out] at hb1
    have Hb1 := Lib.hid hb1
    have HX1 := Lib.hid (HX.out.below hb1 (by have := Hs0.out; omega))
    have hne : w.heap.size ≠ w1.heap.size := by have := hb1.size; have := Hs0.out; omega
    have hne' : w1.heap.size ≠ w.heap.size := fun h => hne h.symm
    clear hb1
    obtain ⟨x0, x1, x2, x3, x4, x5, x6, x7, x8, x9, x10, x11⟩ := HX1.out.ddl
    have k0 := fun o => keep_alloc x0 o
    have k11 := fun o => keep_alloc x11 o
    unfold Db.parts
    have HI1 := Lib.hid (fun X (hX : Below w1.heap.size w1 X) => HI.out X (RowAt.to (HD0.out.to Hb1.out) hX))
    go_wp2_with fail
    refine (HI1.out _ (by go_grown)).mono ?_
    rintro e w2 ⟨rfl, hb2⟩
    have HBk : Hid (BlkN w2 w1.heap.size [.int .i64 0, .string ⟨#[]⟩, .string d.p.co, .string d.p.to, .string d.p.key, .int .i64 d.p.tk, .int .i64 d.p.tm, .bool d.p.nl, .int .i64 d.p.dk, .int .i64 d.p.dn, .string d.p.ds, .int .i64 (d.p.cols.length : Int)]) := (BlkN.new w1 _ [.int .i64 0, .string ⟨#[]⟩, .string d.p.co, .string d.p.to, .string d.p.key, .int .i64 d.p.tk, .int .i64 d.p.tm, .bool d.p.nl, .int .i64 d.p.dk, .int .i64 d.p.dn, .string d.p.ds, .int .i64 (d.p.cols.length : Int)] 55 rfl).below hb2 (by simp)
    have g4 : w2.frozen? ⟨w1.heap.size, 4, none⟩ = false := (hb2.frozen (p := ⟨w1.heap.size, 4, none⟩) (by simp)).trans (by simp)
    have g11 : w2.frozen? ⟨w1.heap.size, 11, none⟩ = false := (hb2.frozen (p := ⟨w1.heap.size, 11, none⟩) (by simp)).trans (by simp)
    have Hb2 : Hid (Below w1.heap.size w1 w2) := ((Below.refl w1.heap.size w1).alloc (Nat.le_refl _) _).trans (hb2.mono (by simp))
    clear hb2 x0 x1 x2 x3 x4 x5 x6 x7 x8 x9 x10 x11 k0 k11
    have y0 := HBk.out 0 _ rfl
    have y1 := HBk.out 1 _ rfl
    have y2 := HBk.out 2 _ rfl
    have y3 := HBk.out 3 _ rfl
    have y4 := HBk.out 4 _ rfl
    have y5 := HBk.out 5 _ rfl
    have y6 := HBk.out 6 _ rfl
    have y7 := HBk.out 7 _ rfl
    have y8 := HBk.out 8 _ rfl
    have y9 := HBk.out 9 _ rfl
    have y10 := HBk.out 10 _ rfl
    have y11 := HBk.out 11 _ rfl
    have HbE : Hid (Below w.heap.size w ((w2.setCell ⟨w1.heap.size, 4, none⟩ (.string ⟨#[]⟩)).setCell ⟨w1.heap.size, 11, none⟩ (.int .i64 ((d.p.cols.countP fun c => c.id != 0 : Nat) : Int)))) := by
      have h1 := bthen Hb0.out Hb1.out
      have h2 : w.heap.size ≤ w1.heap.size := h1.size
      exact bput (bput (h1.trans (Hb2.out.mono h2)) h2 4 _) h2 11 _
    generalize (d.p.cols.countP fun c => c.id != 0) = cnt at Hv HbE ⊢
    go_wp2_with fail
    go_ret
    exact ⟨by rw [Hv.out]; rfl, HbE.out⟩
  by_cases e2 : d.p.op = 2
  · have e := e2
    have Hv : Hid (plainD d.p = eqP (restP d.p (d.p.cols.length : Int)) zeroP) := (rest_plain d.p (by omega)).symm
    have Hr : Hid (restP d.p (d.p.cols.length : Int) = ⟨0, ⟨#[]⟩, d.p.co, d.p.to, d.p.key, d.p.tk, d.p.tm, d.p.nl, d.p.dk, d.p.dn, d.p.ds, (d.p.cols.length : Int)⟩) := by show _ = _; unfold restP; rw [if_neg (by omega), if_pos e]
    rw [Hr.out] at Hv
    generalize plainD d.p = R at Hv ⊢
    have q1 : (d.p.op == 1) = false := by rw [beq_eq_false_iff_ne]; omega
    have q2 : (d.p.op == 2) = true := by rw [beq_iff_eq]; exact e
    clear e e1 e2
    go_enter Tryz.func8, Tryz.ntmps8
    go_wp2_with fail
    refine HP.out.mono ?_
    rintro e w1 ⟨rfl, hb1⟩
    rw [Hw0.out] at hb1
    have Hb1 := Lib.hid hb1
    have HX1 := Lib.hid (HX.out.below hb1 (by have := Hs0.out; omega))
    have hne : w.heap.size ≠ w1.heap.size := by have := hb1.size; have := Hs0.out; omega
    have hne' : w1.heap.size ≠ w.heap.size := fun h => hne h.symm
    clear hb1
    obtain ⟨x0, x1, x2, x3, x4, x5, x6, x7, x8, x9, x10, x11⟩ := HX1.out.ddl
    have k0 := fun o => keep_alloc x0 o
    have k11 := fun o => keep_alloc x11 o
    unfold Db.parts
    go_wp2_with fail
    go_ret
    refine ⟨by rw [Hv.out]; rfl, bthen (bthen Hb0.out Hb1.out) ?_⟩
    go_grown
  by_cases e3 : d.p.op = 3
  · have e := e3
    have Hv : Hid (plainD d.p = eqP (restP d.p (d.p.cols.length : Int)) zeroP) := (rest_plain d.p (by omega)).symm
    have Hr : Hid (restP d.p (d.p.cols.length : Int) = ⟨0, ⟨#[]⟩, d.p.co, ⟨#[]⟩, d.p.key, d.p.tk, d.p.tm, d.p.nl, d.p.dk, d.p.dn, d.p.ds, (d.p.cols.length : Int)⟩) := by show _ = _; unfold restP; rw [if_neg (by omega), if_neg (by omega), if_pos e]
    rw [Hr.out] at Hv
    generalize plainD d.p = R at Hv ⊢
    have q1 : (d.p.op == 1) = false := by rw [beq_eq_false_iff_ne]; omega
    have q2 : (d.p.op == 2) = false := by rw [beq_eq_false_iff_ne]; omega
    have q6 : (d.p.op == 6) = false := by rw [beq_eq_false_iff_ne]; omega
    have q3 : (d.p.op == 3) = true := by rw [beq_iff_eq]; exact e
    clear e e1 e2 e3
    go_enter Tryz.func8, Tryz.ntmps8
    go_wp2_with fail
    refine HP.out.mono ?_
    rintro e w1 ⟨rfl, hb1⟩
    rw [Hw0.out] at hb1
    have Hb1 := Lib.hid hb1
    have HX1 := Lib.hid (HX.out.below hb1 (by have := Hs0.out; omega))
    have hne : w.heap.size ≠ w1.heap.size := by have := hb1.size; have := Hs0.out; omega
    have hne' : w1.heap.size ≠ w.heap.size := fun h => hne h.symm
    clear hb1
    obtain ⟨x0, x1, x2, x3, x4, x5, x6, x7, x8, x9, x10, x11⟩ := HX1.out.ddl
    have k0 := fun o => keep_alloc x0 o
    have k11 := fun o => keep_alloc x11 o
    unfold Db.parts
    go_wp2_with fail
    go_ret
    refine ⟨by rw [Hv.out]; rfl, bthen (bthen Hb0.out Hb1.out) ?_⟩
    go_grown
  by_cases e4 : d.p.op = 4
  · have e := e4
    have Hv : Hid (plainD d.p = eqP (restP d.p (d.p.cols.length : Int)) zeroP) := (rest_plain d.p (by omega)).symm
    have Hr : Hid (restP d.p (d.p.cols.length : Int) = ⟨0, ⟨#[]⟩, ⟨#[]⟩, d.p.to, d.p.key, 0, 0, false, 0, 0, ⟨#[]⟩, (d.p.cols.length : Int)⟩) := by show _ = _; unfold restP; rw [if_neg (by omega), if_neg (by omega), if_neg (by omega), if_pos e]
    rw [Hr.out] at Hv
    generalize plainD d.p = R at Hv ⊢
    have q1 : (d.p.op == 1) = false := by rw [beq_eq_false_iff_ne]; omega
    have q2 : (d.p.op == 2) = false := by rw [beq_eq_false_iff_ne]; omega
    have q6 : (d.p.op == 6) = false := by rw [beq_eq_false_iff_ne]; omega
    have q3 : (d.p.op == 3) = false := by rw [beq_eq_false_iff_ne]; omega
    have q4 : (d.p.op == 4) = true := by rw [beq_iff_eq]; exact e
    clear e e1 e2 e3 e4
    go_enter Tryz.func8, Tryz.ntmps8
    go_wp2_with fail
    refine HP.out.mono ?_
    rintro e w1 ⟨rfl, hb1⟩
    rw [Hw0.out] at hb1
    have Hb1 := Lib.hid hb1
    have HX1 := Lib.hid (HX.out.below hb1 (by have := Hs0.out; omega))
    have hne : w.heap.size ≠ w1.heap.size := by have := hb1.size; have := Hs0.out; omega
    have hne' : w1.heap.size ≠ w.heap.size := fun h => hne h.symm
    clear hb1
    obtain ⟨x0, x1, x2, x3, x4, x5, x6, x7, x8, x9, x10, x11⟩ := HX1.out.ddl
    have k0 := fun o => keep_alloc x0 o
    have k11 := fun o => keep_alloc x11 o
    unfold Db.parts
    go_wp2_with fail
    go_ret
    refine ⟨by rw [Hv.out]; rfl, bthen (bthen Hb0.out Hb1.out) ?_⟩
    go_grown
  by_cases e5 : d.p.op = 5
  · have e := e5
    have Hv : Hid (plainD d.p = eqP (restP d.p (d.p.cols.length : Int)) zeroP) := (rest_plain d.p (by omega)).symm
    have Hr : Hid (restP d.p (d.p.cols.length : Int) = ⟨0, ⟨#[]⟩, ⟨#[]⟩, d.p.to, d.p.key, d.p.tk, d.p.tm, d.p.nl, d.p.dk, d.p.dn, d.p.ds, (d.p.cols.length : Int)⟩) := by show _ = _; unfold restP; rw [if_neg (by omega), if_neg (by omega), if_neg (by omega), if_neg (by omega), if_pos e]
    rw [Hr.out] at Hv
    generalize plainD d.p = R at Hv ⊢
    have q1 : (d.p.op == 1) = false := by rw [beq_eq_false_iff_ne]; omega
    have q2 : (d.p.op == 2) = false := by rw [beq_eq_false_iff_ne]; omega
    have q6 : (d.p.op == 6) = false := by rw [beq_eq_false_iff_ne]; omega
    have q3 : (d.p.op == 3) = false := by rw [beq_eq_false_iff_ne]; omega
    have q4 : (d.p.op == 4) = false := by rw [beq_eq_false_iff_ne]; omega
    have q7 : (d.p.op == 7) = false := by rw [beq_eq_false_iff_ne]; omega
    have q5 : (d.p.op == 5) = true := by rw [beq_iff_eq]; exact e
    clear e e1 e2 e3 e4 e5
    go_enter Tryz.func8, Tryz.ntmps8
    go_wp2_with fail
    refine HP.out.mono ?_
    rintro e w1 ⟨rfl, hb1⟩
    rw [Hw0.out] at hb1
    have Hb1 := Lib.hid hb1
    have HX1 := Lib.hid (HX.out.below hb1 (by have := Hs0.out; omega))
    have hne : w.heap.size ≠ w1.heap.size := by have := hb1.size; have := Hs0.out; omega
    have hne' : w1.heap.size ≠ w.heap.size := fun h => hne h.symm
    clear hb1
    obtain ⟨x0, x1, x2, x3, x4, x5, x6, x7, x8, x9, x10, x11⟩ := HX1.out.ddl
    have k0 := fun o => keep_alloc x0 o
    have k11 := fun o => keep_alloc x11 o
    unfold Db.parts
    go_wp2_with fail
    go_ret
    refine ⟨by rw [Hv.out]; rfl, bthen (bthen Hb0.out Hb1.out) ?_⟩
    go_grown
  by_cases e6 : d.p.op = 6
  · have e := e6
    have Hv : Hid (plainD d.p = eqP (restP d.p (d.p.cols.length : Int)) zeroP) := (rest_plain d.p (by omega)).symm
    have Hr : Hid (restP d.p (d.p.cols.length : Int) = ⟨0, ⟨#[]⟩, ⟨#[]⟩, ⟨#[]⟩, d.p.key, d.p.tk, d.p.tm, d.p.nl, d.p.dk, d.p.dn, d.p.ds, (d.p.cols.length : Int)⟩) := by show _ = _; unfold restP; rw [if_neg (by omega), if_neg (by omega), if_neg (by omega), if_neg (by omega), if_neg (by omega), if_pos e]
    rw [Hr.out] at Hv
    generalize plainD d.p = R at Hv ⊢
    have q1 : (d.p.op == 1) = false := by rw [beq_eq_false_iff_ne]; omega
    have q2 : (d.p.op == 2) = false := by rw [beq_eq_false_iff_ne]; omega
    have q6 : (d.p.op == 6) = true := by rw [beq_iff_eq]; exact e
    clear e e1 e2 e3 e4 e5 e6
    go_enter Tryz.func8, Tryz.ntmps8
    go_wp2_with fail
    refine HP.out.mono ?_
    rintro e w1 ⟨rfl, hb1⟩
    rw [Hw0.out] at hb1
    have Hb1 := Lib.hid hb1
    have HX1 := Lib.hid (HX.out.below hb1 (by have := Hs0.out; omega))
    have hne : w.heap.size ≠ w1.heap.size := by have := hb1.size; have := Hs0.out; omega
    have hne' : w1.heap.size ≠ w.heap.size := fun h => hne h.symm
    clear hb1
    obtain ⟨x0, x1, x2, x3, x4, x5, x6, x7, x8, x9, x10, x11⟩ := HX1.out.ddl
    have k0 := fun o => keep_alloc x0 o
    have k11 := fun o => keep_alloc x11 o
    unfold Db.parts
    go_wp2_with fail
    go_ret
    refine ⟨by rw [Hv.out]; rfl, bthen (bthen Hb0.out Hb1.out) ?_⟩
    go_grown
  by_cases e7 : d.p.op = 7
  · have e := e7
    have Hv : Hid (plainD d.p = eqP (restP d.p (d.p.cols.length : Int)) zeroP) := (rest_plain d.p (by omega)).symm
    have Hr : Hid (restP d.p (d.p.cols.length : Int) = ⟨0, ⟨#[]⟩, ⟨#[]⟩, d.p.to, d.p.key, 0, 0, d.p.nl, d.p.dk, d.p.dn, d.p.ds, (d.p.cols.length : Int)⟩) := by show _ = _; unfold restP; rw [if_neg (by omega), if_neg (by omega), if_neg (by omega), if_neg (by omega), if_neg (by omega), if_neg (by omega), if_pos e]
    rw [Hr.out] at Hv
    generalize plainD d.p = R at Hv ⊢
    have q1 : (d.p.op == 1) = false := by rw [beq_eq_false_iff_ne]; omega
    have q2 : (d.p.op == 2) = false := by rw [beq_eq_false_iff_ne]; omega
    have q6 : (d.p.op == 6) = false := by rw [beq_eq_false_iff_ne]; omega
    have q3 : (d.p.op == 3) = false := by rw [beq_eq_false_iff_ne]; omega
    have q4 : (d.p.op == 4) = false := by rw [beq_eq_false_iff_ne]; omega
    have q7 : (d.p.op == 7) = true := by rw [beq_iff_eq]; exact e
    clear e e1 e2 e3 e4 e5 e6 e7
    go_enter Tryz.func8, Tryz.ntmps8
    go_wp2_with fail
    refine HP.out.mono ?_
    rintro e w1 ⟨rfl, hb1⟩
    rw [Hw0.out] at hb1
    have Hb1 := Lib.hid hb1
    have HX1 := Lib.hid (HX.out.below hb1 (by have := Hs0.out; omega))
    have hne : w.heap.size ≠ w1.heap.size := by have := hb1.size; have := Hs0.out; omega
    have hne' : w1.heap.size ≠ w.heap.size := fun h => hne h.symm
    clear hb1
    obtain ⟨x0, x1, x2, x3, x4, x5, x6, x7, x8, x9, x10, x11⟩ := HX1.out.ddl
    have k0 := fun o => keep_alloc x0 o
    have k11 := fun o => keep_alloc x11 o
    unfold Db.parts
    go_wp2_with fail
    go_ret
    refine ⟨by rw [Hv.out]; rfl, bthen (bthen Hb0.out Hb1.out) ?_⟩
    go_grown
  by_cases e8 : d.p.op = 8
  · have e := e8
    have Hv : Hid (plainD d.p = eqP (restP d.p (d.p.cols.length : Int)) zeroP) := (rest_plain d.p (by omega)).symm
    have Hr : Hid (restP d.p (d.p.cols.length : Int) = ⟨0, ⟨#[]⟩, ⟨#[]⟩, d.p.to, d.p.key, d.p.tk, d.p.tm, d.p.nl, 0, 0, ⟨#[]⟩, (d.p.cols.length : Int)⟩) := by show _ = _; unfold restP; rw [if_neg (by omega), if_neg (by omega), if_neg (by omega), if_neg (by omega), if_neg (by omega), if_neg (by omega), if_neg (by omega)]
    rw [Hr.out] at Hv
    generalize plainD d.p = R at Hv ⊢
    have q1 : (d.p.op == 1) = false := by rw [beq_eq_false_iff_ne]; omega
    have q2 : (d.p.op == 2) = false := by rw [beq_eq_false_iff_ne]; omega
    have q6 : (d.p.op == 6) = false := by rw [beq_eq_false_iff_ne]; omega
    have q3 : (d.p.op == 3) = false := by rw [beq_eq_false_iff_ne]; omega
    have q4 : (d.p.op == 4) = false := by rw [beq_eq_false_iff_ne]; omega
    have q7 : (d.p.op == 7) = false := by rw [beq_eq_false_iff_ne]; omega
    have q5 : (d.p.op == 5) = false := by rw [beq_eq_false_iff_ne]; omega
    have q8 : (d.p.op == 8) = true := by rw [beq_iff_eq]; exact e
    clear e e1 e2 e3 e4 e5 e6 e7 e8
    go_enter Tryz.func8, Tryz.ntmps8
    go_wp2_with fail
    refine HP.out.mono ?_
    rintro e w1 ⟨rfl, hb1⟩
    rw [Hw0.out] at hb1
    have Hb1 := Lib.hid hb1
    have HX1 := Lib.hid (HX.out.below hb1 (by have := Hs0.out; omega))
    have hne : w.heap.size ≠ w1.heap.size := by have := hb1.size; have := Hs0.out; omega
    have hne' : w1.heap.size ≠ w.heap.size := fun h => hne h.symm
    clear hb1
    obtain ⟨x0, x1, x2, x3, x4, x5, x6, x7, x8, x9, x10, x11⟩ := HX1.out.ddl
    have k0 := fun o => keep_alloc x0 o
    have k11 := fun o => keep_alloc x11 o
    unfold Db.parts
    go_wp2_with fail
    go_ret
    refine ⟨by rw [Hv.out]; rfl, bthen (bthen Hb0.out Hb1.out) ?_⟩
    go_grown
  have Hv : Hid (plainD d.p = false) := plainD_no d.p (by omega)
  generalize plainD d.p = R at Hv ⊢
  have q1 : (d.p.op == 1) = false := by rw [beq_eq_false_iff_ne]; omega
  have q2 : (d.p.op == 2) = false := by rw [beq_eq_false_iff_ne]; omega
  have q6 : (d.p.op == 6) = false := by rw [beq_eq_false_iff_ne]; omega
  have q3 : (d.p.op == 3) = false := by rw [beq_eq_false_iff_ne]; omega
  have q4 : (d.p.op == 4) = false := by rw [beq_eq_false_iff_ne]; omega
  have q7 : (d.p.op == 7) = false := by rw [beq_eq_false_iff_ne]; omega
  have q5 : (d.p.op == 5) = false := by rw [beq_eq_false_iff_ne]; omega
  have q8 : (d.p.op == 8) = false := by rw [beq_eq_false_iff_ne]; omega
  clear e1 e2 e3 e4 e5 e6 e7 e8
  go_enter Tryz.func8, Tryz.ntmps8
  go_wp2_with fail
  refine HP.out.mono ?_
  rintro e w1 ⟨rfl, hb1⟩
  rw [Hw0.out] at hb1
  have Hb1 := Lib.hid hb1
  have HX1 := Lib.hid (HX.out.below hb1 (by have := Hs0.out; omega))
  have hne : w.heap.size ≠ w1.heap.size := by have := hb1.size; have := Hs0.out; omega
  have hne' : w1.heap.size ≠ w.heap.size := fun h => hne h.symm
  clear hb1
  obtain ⟨x0, x1, x2, x3, x4, x5, x6, x7, x8, x9, x10, x11⟩ := HX1.out.ddl
  have k0 := fun o => keep_alloc x0 o
  have k11 := fun o => keep_alloc x11 o
  unfold Db.parts
  go_wp2_with fail
  go_ret
  refine ⟨by rw [Hv.out]; rfl, bthen (bthen Hb0.out Hb1.out) ?_⟩
  go_grown
end Go.Proofs.YtlbdbaafmdikcaaGreatDoor

/-
  Contract of package ddl's fill: the columns of a new table, in its box.
-/
namespace Go.Proofs.YtlbdbaafmdikcaaGreatDoor
open Go.RowKit

/-- a column with its number -/
def Cb.at (c : Cb) (i : Nat) : Cb := { c with id := (i : Int) }
def numd (l : List Cb) : List Cb := l.mapIdx fun i c => { c with id := (i : Int) }
theorem numd_get (l : List Cb) (i : Nat) : (numd l)[i]? = (l[i]?).map fun c => c.at i := by unfold numd; rw [List.getElem?_mapIdx]; rfl
theorem numd_length (l : List Cb) : (numd l).length = l.length := by unfold numd; rw [List.length_mapIdx]
theorem numd_take (l : List Cb) (k : Nat) (c : Cb) (h : l[k]? = some c) : numd (l.take (k + 1)) = numd (l.take k) ++ [{ c with id := (k : Int) }] := by
  have hk := (List.getElem?_eq_some_iff.1 h).1
  unfold numd
  rw [List.take_add_one, h, Option.toList, List.mapIdx_append, List.length_take, show min k l.length = k by omega]
  simp
theorem colP_numd (l : List Cb) (s : ByteArray) : colP (numd l) s = colP l s := by
  unfold colP
  have e : (fun c : Cb => eqS c.nm s) = (fun b : ByteArray => eqS b s) ∘ Cb.nm := rfl
  have h : (numd l).map Cb.nm = l.map Cb.nm := by
    refine List.ext_getElem? fun i => ?_
    rw [List.getElem?_map, List.getElem?_map, numd_get]
    cases l[i]? <;> rfl
  rw [e, ← List.findIdx?_map, ← List.findIdx?_map, h]
/-- the table when k columns stand -/
def fillT (t : Tb) (l : List Cb) (k : Nat) (A : Option Addr) (cap : Nat) : Tb := ⟨t.id, t.nm, t.key, (k : Int), A, cap, numd (l.take k)⟩
theorem acol_ncol (l : List Cb) (k : Nat) (c : Cb) : acolE (numd (l.take k)) c = ncolE l k c := by
  unfold acolE ncolE
  rw [colP_numd]; rfl
theorem ncolsE_stop {l : List Cb} : ∀ (r : List Cb) (i k : Nat) (c : Cb), (∀ j x, j < k → r[j]? = some x → ncolE l (i + j) x = 0) → r[k]? = some c → ncolE l (i + k) c ≠ 0 → ncolsE l i r = ncolE l (i + k) c
  | [], _, k, c, _, h, _ => by simp at h
  | a :: r, i, 0, c, _, h, h0 => by
    simp at h; subst h
    rw [ncolsE, if_neg (by simpa using h0)]; rfl
  | a :: r, i, k + 1, c, ha, h, h0 => by
    rw [ncolsE, if_pos (by simpa using ha 0 a (by omega) rfl)]
    rw [show i + (k + 1) = i + 1 + k by omega] at h0 ⊢
    exact ncolsE_stop r (i + 1) k c (fun j x hj hx => by
      have := ha (j + 1) x (by omega) (by simpa using hx)
      rwa [show i + (j + 1) = i + 1 + j by omega] at this) (by simpa using h) h0
theorem ncolsE_done {l : List Cb} : ∀ (r : List Cb) (i : Nat), (∀ j x, r[j]? = some x → ncolE l (i + j) x = 0) → ncolsE l i r = 0
  | [], _, _ => rfl
  | a :: r, i, h => by
    rw [ncolsE, if_pos (by simpa using h 0 a rfl)]
    exact ncolsE_done r (i + 1) fun j x hx => by
      have := h (j + 1) x (by simpa using hx)
      rwa [show i + (j + 1) = i + 1 + j by omega] at this
/-- why a table's columns can't stand -/
def filE (d : Dp) : Int := if d.cols.length = 0 then 5 else if 10 < d.cols.length then 3
    else if ncolsE d.cols 0 d.cols = 0 then (match (colP d.cols d.key).bind fun k => d.cols[k]? with
      | none => 15
      | some c => if c.nl = true then 11 else 0)
    else ncolsE d.cols 0 d.cols
/-- a table in its box, its columns its own -/
def Boxed (w : World) (b Bc : Nat) (t : Tb) : Prop := OwnTb w b (.slice (some ⟨b, 0, none⟩) 1 1) [t] ∧ OwnC w Bc (.slice t.A t.cols.length t.cap) t.cols
theorem Boxed.cells {w : World} {b Bc : Nat} {t : Tb} (h : Boxed w b Bc t) : w.cell? ⟨b, 0, none⟩ = some (.int .i64 t.id) ∧ w.cell? ⟨b, 1, none⟩ = some (.string t.nm) ∧ w.cell? ⟨b, 2, none⟩ = some (.int .i64 t.key) ∧ w.cell? ⟨b, 3, none⟩ = some (.int .i64 t.nx) ∧ w.cell? ⟨b, 4, none⟩ = some (.slice t.A t.cols.length t.cap) := by
  have := tab_cells (k := 0) h.1 rfl
  simpa using this
theorem Boxed.below {w w' : World} {b Bc : Nat} {t : Tb} (h : Boxed w b Bc t) (hb : Below w.heap.size w w') : Boxed w' b Bc t := ⟨h.1.below hb, h.2.below hb⟩
theorem Boxed.at {w : World} {b Bc : Nat} {t : Tb} (h : Boxed w b Bc t) : TabAt w w.heap.size t := h.2.at lenC
theorem acol_box (b Bc : Nat) (t : Tb) (c : Cb) (w : World) (ht : UTab w) (h : Boxed w b Bc t) (hb1 : b < Bc) (hb2 : Bc ≤ w.heap.size) (hu : 0 < b ∧ 1 < b) (hl : t.cols.length ≤ 1000000) (hc : c.nm.size ≤ 1000000) (hn0 : 0 ≤ t.nx) (hn1 : t.nx ≤ 1000000) :
    Calls Tryz.prog 75 #[.pointer (some ⟨b, 0, none⟩), CV c] w fun e w' => e = .returned (.int .i64 (acolE t.cols c)) ∧ Off (fun x => x = b ∨ Bc ≤ x) w w' ∧ (acolE t.cols c = 0 → UTab w' ∧ ∃ A' cap', Boxed w' b Bc (t.more A' cap' c)) := by
  have hcl : ∀ x, colBk t = some x → Bc ≤ x := fun x hx => (h.2.lt x hx).1
  have := acol_any b 1 0 [t] t c w b Bc ht h.1 rfl h.2 hb1 hb2 hl hc hn0 hn1
  rw [show 0 * 5 = 0 from rfl] at this
  refine this.mono ?_
  rintro e w' ⟨rfl, hbad, hok⟩
  by_cases h0 : acolE t.cols c = 0
  · obtain ⟨hof, A', cap', h1, h2⟩ := hok h0
    have hof' : Off (fun x => x = b ∨ Bc ≤ x) w w' := hof.mono fun x _ e => e.imp id (hcl x)
    refine ⟨rfl, hof', fun _ => ⟨ht.off hof' (by omega) (by omega), A', cap', h1, ?_⟩⟩
    show OwnC w' Bc (.slice A' (t.cols ++ [{ c with id := t.nx }]).length cap') _
    rw [List.length_append]; exact h2
  · exact ⟨rfl, .of_below (hbad h0), fun e => absurd e h0⟩
/-- the key of a table in its box stored -/
theorem Boxed.key {w : World} {b Bc : Nat} {T : Tb} (h : Boxed w b Bc T) (hb : b < Bc) (q : Int) : Boxed (w.setCell ⟨b, 2, none⟩ (.int .i64 q)) b Bc { T with key := q } := by
  have h1 := OwnR.set1 (l := [T]) lenT h.1 (k := 0) (i := 2) (x := T) (y := { T with key := q }) (u := .int .i64 q) rfl (by omega) rfl
  rw [show 0 * 5 + 2 = 2 from rfl] at h1
  exact ⟨h1, OwnR.off h.2 (Off.set w b 2 (.int .i64 q)) (fun x hx e => by
    have h3 := (h.2.lt x hx).1
    omega)⟩
set_option maxRecDepth 100000 in
set_option maxHeartbeats 2000000 in
theorem fill_any (b : Nat) (t : Tb) (d : Db) (w : World) (ht : UTab w) (hB : OwnTb w b (.slice (some ⟨b, 0, none⟩) 1 1) [t]) (htA : t.A = none) (htc : t.cap = 0) (hu : 0 < b ∧ 1 < b) (ht0 : t.cols = []) (htn : t.nx = 0) (hD : DdlAt w b d) (hw : ∀ c ∈ d.p.cols, c.nm.size ≤ 1000000) :
    Calls Tryz.prog 71 #[.pointer (some ⟨b, 0, none⟩), DV d] w fun e w' => e = .returned (.int .i64 (filE d.p)) ∧ Below b w w' ∧
      (filE d.p = 0 → ∃ A' cap' Bc, b < Bc ∧ Bc ≤ w'.heap.size ∧ Boxed w' b Bc ⟨t.id, t.nm, (((colP d.p.cols d.p.key).getD 0 : Nat) : Int), (d.p.cols.length : Int), A', cap', numd d.p.cols⟩) := by
  have hbw : b < w.heap.size := (hB.lt b rfl).2
  obtain ⟨w0, hw0, hb0, hX, hs0⟩ := box_ddl w d
  have Hw0 := Lib.hid hw0; clear hw0
  have Hb0 := Lib.hid hb0
  have HB0 : Hid (Boxed w0 b w0.heap.size t) := ⟨hB.below hb0, by rw [htA, ht0, htc]; exact OwnR.nil _ _ _ _ _⟩
  clear hB htA htc
  have HD : Hid (ColsAt w0 b d.A d.p.cols) := RowAt.below hD (hb0.mono (by omega))
  clear hD
  have HT := Lib.hid (ht.below hb0 (Nat.le_refl _)); clear ht hb0
  have Hs0 := Lib.hid hs0; clear hs0
  have HWc := Lib.hid hw; clear hw
  obtain ⟨x0, x1, x2, x3, x4, x5, x6, x7, x8, x9, x10, x11⟩ := hX.ddl
  have HX := Lib.hid hX
  clear hX
  by_cases hz : d.p.cols.length = 0
  · have He : Hid (filE d.p = 5) := by show _ = _; unfold filE; rw [if_pos hz]
    generalize filE d.p = E at He ⊢
    have hq : ((d.p.cols.length : Int) == 0) = true := by rw [beq_iff_eq]; omega
    clear hz
    go_enter Tryz.func71, Tryz.ntmps71
    go_wp2_with fail
    rw [Hw0.out]
    go_ret
    exact ⟨by rw [He.out]; rfl, Hb0.out.mono (by omega), fun h => by rw [He.out] at h; cases h⟩
  have hq : ((d.p.cols.length : Int) == 0) = false := by rw [beq_eq_false_iff_ne]; omega
  by_cases hm : 10 < d.p.cols.length
  · have He : Hid (filE d.p = 3) := by show _ = _; unfold filE; rw [if_neg hz, if_pos hm]
    generalize filE d.p = E at He ⊢
    have hq2 : decide (10 < (d.p.cols.length : Int)) = true := by simp; omega
    clear hz hm
    go_enter Tryz.func71, Tryz.ntmps71
    go_wp2_with fail
    rw [Hw0.out]
    go_ret
    exact ⟨by rw [He.out]; rfl, Hb0.out.mono (by omega), fun h => by rw [He.out] at h; cases h⟩
  have hq2 : decide (10 < (d.p.cols.length : Int)) = false := by simp; omega
  have He : Hid (filE d.p = if ncolsE d.p.cols 0 d.p.cols = 0 then (match (colP d.p.cols d.p.key).bind fun k => d.p.cols[k]? with
      | none => 15
      | some c => if c.nl = true then 11 else 0)
    else ncolsE d.p.cols 0 d.p.cols) := by show _ = _; unfold filE; rw [if_neg hz, if_neg hm]
  generalize filE d.p = E at He ⊢
  have hlen : d.p.cols.length ≤ 10 := by omega
  have Hpos := Lib.hid (show 0 < d.p.cols.length by omega)
  clear hz hm
  go_enter Tryz.func71, Tryz.ntmps71
  go_wp2_with fail
  rw [Hw0.out]
  clear x0 x1 x2 x3 x4 x5 x6 x7 x8 x9 x10 x11 hq hq2
  go_loopw [23] (fun i wr => ∃ (k : Nat) (A : Option Addr) (cap : Nat), k ≤ d.p.cols.length ∧ i = .int .i64 k ∧ Hid (Boxed wr b w0.heap.size (fillT t d.p.cols k A cap)) ∧ Hid (Below b w0 wr) ∧ Hid (UTab wr) ∧ Hid (BlkN wr w.heap.size (fD d)) ∧ Hid (w0.heap.size ≤ wr.heap.size) ∧
    Hid (∀ j x, j < k → d.p.cols[j]? = some x → ncolE d.p.cols j x = 0)) (fun i _ => d.p.cols.length - (intOf i).toNat)
  case atStart =>
    refine ⟨0, t.A, t.cap, by omega, rfl, ?_, Below.refl _ _, HT.out, HX.out, Nat.le_refl _, fun j x h => by omega⟩
    have : fillT t d.p.cols 0 t.A t.cap = t := by
      unfold fillT numd
      obtain ⟨a1, a2, a3, a4, a5, a6, a7⟩ := t
      simp at ht0 htn
      subst ht0 htn
      rfl
    show Boxed _ _ _ _
    rw [this]; exact HB0.out
  case round =>
    obtain ⟨k, A, cap, hk, rfl, hbx, hb, hut, hX, hsz, hall⟩ := hrel
    by_cases hlt : k < d.p.cols.length
    · obtain ⟨c, hc⟩ : ∃ c, d.p.cols[k]? = some c := ⟨d.p.cols[k], by simp [hlt]⟩
      have Hc := Lib.hid hc
      obtain ⟨bb, off, hAe, hbB, d0, d1, d2, d3, d4, d5, d6, d7⟩ := ColsAt.get (RowAt.below HD.out hb.out) k c hc
      obtain ⟨w2, hw2, hb2, hY, hs2⟩ := box_colO wr c
      have Hw2 := Lib.hid hw2; clear hw2 hY hs2
      have HbB : Hid (b ≤ wr.heap.size) := by show _ ≤ _; have := hsz.out; have := Hs0.out; omega
      have HA := Lib.hid (acol_box b w0.heap.size (fillT t d.p.cols k A cap) c w2 (hut.out.below hb2 (Nat.le_refl _)) (hbx.out.below hb2) (by have := Hs0.out; omega) (Nat.le_trans hsz.out hb2.size) hu (by show (numd _).length ≤ _; rw [numd_length, List.length_take]; omega) (HWc.out c (List.mem_of_getElem? hc)) (by show (0 : Int) ≤ (k : Int); omega) (by show (k : Int) ≤ 1000000; omega))
      rw [show acolE (fillT t d.p.cols k A cap).cols c = ncolE d.p.cols k c from acol_ncol _ _ _, ← Hw2.out] at HA
      have Hb2 := Lib.hid (hb.out.trans (hb2.mono HbB.out))
      have HX2 := Lib.hid (hX.out.below hb2 (by have := hsz.out; have := Hs0.out; omega))
      have Hbw2 := Lib.hid hb2
      clear hb2 hc
      generalize hF : ncolE d.p.cols k c = F at HA
      by_cases hF0 : F = 0
      · subst hF0
        have Hall : Hid (∀ j x, j < k + 1 → d.p.cols[j]? = some x → ncolE d.p.cols j x = 0) := fun j x hj hx => by
          by_cases e : j = k
          · subst e; rw [Hc.out] at hx; cases hx; exact hF
          · exact hall.out j x (by omega) hx
        clear hF
        rw [hAe]
        go_wp2_with fail
        refine HA.out.mono ?_
        rintro e w3 ⟨rfl, hb3, hok⟩
        obtain ⟨hut3, A', cap', hbx3⟩ := hok trivial
        rw [Hw2.out] at hb3
        have Hb3 := Lib.hid (Hb2.out.trans (hb3.below (fun x _ e => by have := Hs0.out; omega) (by have := HbB.out; have := Hbw2.out.size; omega)))
        have HX3 : Hid (BlkN w3 w.heap.size (fD d)) := fun i v hv => hb3.keep (HX2.out i v hv) (fun e => by have := Hs0.out; simp at e; omega)
        have Hs3 : Hid (w0.heap.size ≤ w3.heap.size) := Nat.le_trans hsz.out (Nat.le_trans Hbw2.out.size hb3.size)
        have Hbx3 : Hid (Boxed w3 b w0.heap.size (fillT t d.p.cols (k + 1) A' cap')) := by
          show Boxed _ _ _ _
          have e : fillT t d.p.cols (k + 1) A' cap' = (fillT t d.p.cols k A cap).more A' cap' c := by
            unfold fillT Tb.more
            rw [numd_take _ _ _ Hc.out]
            simp
          rw [e]; exact hbx3
        have Hut3 := Lib.hid hut3
        clear hok hb3 hbx3 hut3
        go_wp2_with fail
        go_roundw
        case rel => exact ⟨k + 1, A', cap', by omega, by go_num, Hbx3, Hb3, Hut3, HX3, Hs3, Hall⟩
        case measure => simp [intOf]; omega
      · have HF0 := Lib.hid hF0
        have He2 : Hid (E = F) := by
          show _ = _
          have h1 := ncolsE_stop (l := d.p.cols) d.p.cols 0 k c (fun j x hj hx => by rw [Nat.zero_add]; exact hall.out j x hj hx) Hc.out (by rw [Nat.zero_add, hF]; exact hF0)
          rw [Nat.zero_add, hF] at h1
          rw [He.out, h1, if_neg hF0]
        have hz0 : (F == 0) = false := by simpa using hF0
        have hz1 : (F != 0) = true := by rw [bne, hz0]; rfl
        clear hF hF0
        rw [hAe]
        go_wp2_with fail
        refine HA.out.mono ?_
        rintro e w3 ⟨rfl, hb3, _⟩
        rw [Hw2.out] at hb3
        have Hb3 := Lib.hid ((Hb0.out.mono (Nat.le_of_lt hbw)).trans (Hb2.out.trans (hb3.below (fun x _ e => by have := Hs0.out; omega) (by have := HbB.out; have := Hbw2.out.size; omega))))
        clear hb3
        go_wp2_with fail
        go_ret
        exact ⟨by rw [He2.out]; rfl, Hb3.out, fun h => absurd (He2.out.symm.trans h) HF0.out⟩
    · have hlt' : decide ((k : Int) < (d.p.cols.length : Int)) = false := by simp; omega
      obtain rfl : k = d.p.cols.length := by omega
      have Hn0 : Hid (ncolsE d.p.cols 0 d.p.cols = 0) := ncolsE_done _ _ fun j x hx => by rw [Nat.zero_add]; exact hall.out j x (List.getElem?_eq_some_iff.1 hx).1 hx
      rw [Hn0.out, if_pos rfl] at He
      have Hft : Hid (numd (d.p.cols.take d.p.cols.length) = numd d.p.cols) := by show _ = _; rw [List.take_length]
      obtain ⟨T, hT⟩ : ∃ T, fillT t d.p.cols d.p.cols.length A cap = T := ⟨_, rfl⟩
      have HTe : Hid (T = ⟨t.id, t.nm, t.key, (d.p.cols.length : Int), A, cap, numd d.p.cols⟩) := by show _ = _; rw [← hT]; unfold fillT; rw [Hft.out]
      rw [hT] at hbx
      clear hT
      have HcI : Hid (colI T d.p.key = colP d.p.cols d.p.key) := by show _ = _; rw [HTe.out]; exact colP_numd _ _
      have HTl : Hid (T.cols.length ≤ 1000000) := by show _ ≤ _; rw [HTe.out]; show (numd _).length ≤ _; rw [numd_length]; omega
      have HSd : Hid (TabAt wr.drew wr.drew.heap.size T) := hbx.out.at
      obtain ⟨c0, c1, c2, c3, c4⟩ := hbx.out.cells
      obtain ⟨x0, x1, x2, x3, x4, x5, x6, x7, x8, x9, x10, x11⟩ := hX.out.ddl
      have HbE := Lib.hid ((Hb0.out.mono (Nat.le_of_lt hbw)).trans hb.out)
      have HbW : Hid (b ≤ wr.heap.size) := by show _ ≤ _; have := hsz.out; have := Hs0.out; omega
      have HC := Lib.hid (fun w' hA' => scol_any T d.p.key w' hA' HTl.out)
      rw [HcI.out] at HC
      cases hco : colP d.p.cols d.p.key with
      | none =>
        have He2 : Hid (E = 15) := by show _ = _; rw [He.out, hco]; rfl
        rw [hco, show fstV none = .tuple #[.int .i64 0, .bool false] from rfl] at HC
        clear hco
        go_wp2_with fail
        go_region_with (first
          | (go_at_call 77; refine (HC.out _ HSd.out).mono ?_; rintro e w2 ⟨rfl, hb2⟩; have Hb2 := Lib.hid ((Below.refl wr.heap.size wr).drew.trans hb2); clear hb2)
          | fail)
        all_goals
          have HbF := Lib.hid (HbE.out.trans (Hb2.out.mono HbW.out))
          go_wp2_with fail
          go_ret
          exact ⟨by rw [He2.out]; rfl, HbF.out, fun h => by rw [He2.out] at h; cases h⟩
      | some q =>
        obtain ⟨c, hc1, hc2, _⟩ := find_some (show d.p.cols.findIdx? (fun c => eqS c.nm d.p.key) = some q from hco)
        have hql := (List.getElem?_eq_some_iff.1 hc1).1
        have He2 : Hid (E = if c.nl = true then 11 else 0) := by show _ = _; rw [He.out, hco]; simp only [Option.bind_some, hc1]
        rw [hco, show fstV (some q) = .tuple #[.int .i64 (q : Int), .bool true] from rfl] at HC
        have Hco := Lib.hid hco
        have HTq : Hid (T.cols[q]? = some (c.at q)) := by show _ = _; rw [HTe.out]; show (numd _)[q]? = _; rw [numd_get, hc1]; rfl
        have hTl2 : T.cols.length = d.p.cols.length := by rw [HTe.out]; exact numd_length _
        clear hco hc1 hc2
        have HR2 := Lib.hid hbx.out.2
        obtain ⟨gc, cc, hsh, hgc1, hgc2, hgc3, hgc4⟩ := OwnR.shape HR2.out (by omega)
        have hA9 : T.A = some ⟨gc, 0, none⟩ := by injection hsh
        have hc9 : T.cap = cc := by injection hsh
        clear hsh
        have HOC : Hid (OwnC wr w0.heap.size (.slice (some ⟨gc, 0, none⟩) T.cols.length cc) T.cols) := by
          show OwnC _ _ _ _
          rw [← hA9, ← hc9]; exact HR2.out
        unfold TV at HC
        rw [hA9, hc9] at HC c4
        have hq0 : (0 : Int) ≤ (q : Int) := by omega
        have hqI : (q : Int) < (T.cols.length : Int) := by omega
        clear hTl2
        have HTk : Hid (({ T with key := (q : Int) } : Tb) = ⟨t.id, t.nm, (q : Int), (d.p.cols.length : Int), A, cap, numd d.p.cols⟩) := by show _ = _; rw [HTe.out]
        cases hnl : c.nl
        · rw [hnl] at He2
          have He3 : Hid (E = 0) := by show _ = _; rw [He2.out]; simp
          clear He2
          go_wp2_with fail
          go_region_with (first
            | (go_at_call 77; refine (HC.out _ HSd.out).mono ?_; rintro e w2 ⟨rfl, hb2⟩; have Hb2 := Lib.hid ((Below.refl wr.heap.size wr).drew.trans hb2); clear hb2)
            | fail)
          all_goals
            clear c0 c1 c2 c3 c4
            have HOC2 := Lib.hid (HOC.out.below Hb2.out)
            have HBx2 := Lib.hid (hbx.out.below Hb2.out)
            obtain ⟨c0, c1, c2, c3, c4⟩ := HBx2.out.cells
            rw [hA9, hc9] at c4
            obtain ⟨y0, y1, y2, y3, y4, y5, y6, y7⟩ := col_cells HOC2.out rfl HTq.out
            rw [show (c.at q).nl = false from hnl] at y4
            rw [show (c.at q).id = (q : Int) from rfl] at y0
            have f2 := OwnR.frozen (l := [T]) HBx2.out.1 2
            have HE := Lib.hid (HBx2.out.key (show b < w0.heap.size by have := Hs0.out; omega) (q : Int))
            have HbF : Hid (Below b w (w2.setCell ⟨b, 2, none⟩ (.int .i64 (q : Int)))) := bput (HbE.out.trans (Hb2.out.mono HbW.out)) (Nat.le_refl _) 2 _
            have HsF : Hid (w0.heap.size ≤ (w2.setCell ⟨b, 2, none⟩ (.int .i64 (q : Int))).heap.size) := Nat.le_trans hsz.out (Nat.le_trans Hb2.out.size (Off.set w2 b 2 _).size)
            go_wp2_with fail
            go_ret
            exact ⟨by rw [He3.out]; rfl, HbF.out, fun _ => ⟨A, cap, w0.heap.size, by have := Hs0.out; omega, HsF.out, by rw [Hco.out, Option.getD_some, ← HTk.out]; exact HE.out⟩⟩
        · rw [hnl] at He2
          have He3 : Hid (E = 11) := by show _ = _; rw [He2.out]; simp
          clear He2
          go_wp2_with fail
          go_region_with (first
            | (go_at_call 77; refine (HC.out _ HSd.out).mono ?_; rintro e w2 ⟨rfl, hb2⟩; have Hb2 := Lib.hid ((Below.refl wr.heap.size wr).drew.trans hb2); clear hb2)
            | fail)
          all_goals
            clear c0 c1 c2 c3 c4
            have HOC2 := Lib.hid (HOC.out.below Hb2.out)
            have HBx2 := Lib.hid (hbx.out.below Hb2.out)
            obtain ⟨c0, c1, c2, c3, c4⟩ := HBx2.out.cells
            rw [hA9, hc9] at c4
            obtain ⟨y0, y1, y2, y3, y4, y5, y6, y7⟩ := col_cells HOC2.out rfl HTq.out
            rw [show (c.at q).nl = true from hnl] at y4
            have HbF := Lib.hid (HbE.out.trans (Hb2.out.mono HbW.out))
            go_wp2_with fail
            go_ret
            exact ⟨by rw [He3.out]; rfl, HbF.out, fun h => by rw [He3.out] at h; cases h⟩
end Go.Proofs.YtlbdbaafmdikcaaGreatDoor

/-
  Contract of slices.Insert at tables: one table inserted into a row of the call's own. The roads after the library's own (Derived.Shelf.Spec.SlicesInsert, SlicesInsertGrow), at elements of five cells.
-/
namespace Go.Proofs.YtlbdbaafmdikcaaGreatDoor
open Go.RowKit Go.Lib

theorem ins_get {α : Type} (l : List α) (t : α) (i j : Nat) (hi : i ≤ l.length) : (l.take i ++ t :: l.drop i)[j]? = if j < i then l[j]? else if j = i then some t else l[j - 1]? := by
  by_cases h : j < i
  · rw [if_pos h, List.getElem?_append_left (by rw [List.length_take]; omega), List.getElem?_take, if_pos h]
  · rw [if_neg h, List.getElem?_append_right (by rw [List.length_take]; omega), List.length_take, show min i l.length = i by omega]
    by_cases h2 : j = i
    · rw [if_pos h2, h2]; simp
    · rw [if_neg h2, show j - i = (j - i - 1) + 1 by omega, List.getElem?_cons_succ, List.getElem?_drop, show i + (j - i - 1) = j - 1 by omega]
set_option maxRecDepth 100000 in
set_option maxHeartbeats 4000000 in
/-- there is room, i < len -/
theorem ins_room_any (g cap i vb : Nat) (l : List Tb) (t : Tb) (w : World) (B : Nat) (hO : OwnTb w B (.slice (some ⟨g, 0, none⟩) l.length cap) l) (hi : i < l.length) (hroom : l.length + 1 ≤ cap) (hl : l.length ≤ 1000000)
    (hne : vb ≠ g) (hv : w.heap[vb]? = some (.cells (fT t).toArray 45 (0, 0))) :
    Calls Tryz.prog 72 #[.slice (some ⟨g, 0, none⟩) l.length cap, .int .i64 (i : Int), .slice (some ⟨vb, 0, none⟩) 1 1] w fun e w' =>
      e = .returned (.slice (some ⟨g, 0, none⟩) (l.length + 1) cap) ∧ OwnTb w' B (.slice (some ⟨g, 0, none⟩) (l.length + 1) cap) (l.take i ++ t :: l.drop i) ∧ Off (fun x => x = g) w w' := by
  have hO' := hO
  obtain ⟨_, h0 | ⟨g', cap', cur, hsl, hB, hcur, hcap, hmax, hcs, _⟩⟩ := hO'
  · omega
  cases hsl
  have hm63 : cap ≤ 9223372036854775807 := by unfold maxLen at hmax; omega
  have hcell : ∀ j, j < cap * 5 → (w.cell? ⟨g, j, none⟩).isSome = true := fun j hj => by
    rw [cell_of_row w g j cur _ (0, 0) hcur, Array.getElem?_eq_getElem (by omega)]; rfl
  have hfro : ∀ j, w.frozen? ⟨g, j, none⟩ = false := fun j => frozen_of_row w g j cur _ hcur
  obtain ⟨i0, hi0, hz0, hz1, hz2⟩ := info_parts infoTb
  have hsz : (Tryz.prog.info? 45).map (·.size) = some 5 := by rw [hi0]; simp [hz1]
  have hvs : ∀ j v, (fT t)[j]? = some v → w.cell? ⟨vb, j, none⟩ = some v := fun j v hj => by
    rw [cell_of_row w vb j _ _ (0, 0) hv]; simpa using hj
  have hov : ∀ lb cb, (callFunc 104 #[.slice (some ⟨vb, 0, none⟩) 1 1, .slice (some ⟨g, (i + 1) * 5, none⟩) lb cb]).run Tryz.prog w = .ok (.value (.bool false)) w := fun lb cb => by
    rw [run_callFunc_extern Tryz.func104 (by kernel_rfl) (by kernel_rfl) (by kernel_rfl) (e := Extern.SlicesOverlaps.overlaps #[35, 35] #[4]) (by kernel_rfl),
      Lib.run_overlaps_apart w 35 4 45 Tryz.underlying35 5 Tryz.sizeOf45 ⟨vb, 0, none⟩ ⟨g, (i + 1) * 5, none⟩ 1 1 lb cb hne 45 45 5 (cap * 5) (by simp [World.shape?, hv, fT]) (by simp [World.shape?, hcur, hcs]) (by omega)
        (frozen_of_row w vb 0 _ _ hv) (frozen_of_row w vb 5 _ _ hv)]
    rfl
  obtain ⟨tl, htl⟩ : ∃ tl, tl = flt fT (l.drop i) := ⟨_, rfl⟩
  have htll : tl.length = (l.length - i) * 5 := by rw [htl, flat_length lenT, List.length_drop]
  have htls : ∀ p u, tl[p]? = some u → w.cell? ⟨g, i * 5 + p, none⟩ = some u := by
    rw [htl]
    refine flat_all lenT _ fun j x q v hj hv => ?_
    rw [show i * 5 + (j * 5 + q) = (i + j) * 5 + q by omega]
    exact hO.cell lenT (by rwa [List.getElem?_drop] at hj) hv
  have hcp1 : ∀ ty dc sc, (Builtin.copy_ #[35, 35] ty #[.slice (some ⟨g, (i + 1) * 5, none⟩) (l.length - i) dc, .slice (some ⟨g, i * 5, none⟩) (l.length + 1 - i) sc]).run Tryz.prog w.drew = .ok (goInt (Nat.min (l.length + 1 - i) (l.length - i))) (w.drew.setCells g ((i + 1) * 5) tl) := fun ty dc sc =>
    run_copy_cellsK w.drew _ _ ty 45 g ((i + 1) * 5) (l.length - i) dc ⟨g, i * 5, none⟩ (l.length + 1 - i) sc tl Tryz.underlying35 hsz (by rw [htll]; simp only [Nat.min_def]; split <;> omega)
      (fun j v hj => by rw [Addr.add_lit]; exact htls j v hj)
      (fun j hj => hcell _ (by rw [htll] at hj; omega)) (fun j _ => hfro _) (by rw [htl]; exact flat_mem oneT _)
  obtain ⟨W1, hW1⟩ : ∃ W1, W1 = w.drew.setCells g ((i + 1) * 5) tl := ⟨_, rfl⟩
  obtain ⟨cur1, hcur1, hcs1⟩ : ∃ cur1, W1.heap[g]? = some (.cells cur1 45 (0, 0)) ∧ cur1.size = cur.size := by
    rw [hW1]; exact setCells_block g _ tl _ w.drew cur hcur
  have hcp2 : ∀ (W : World), (∀ x, W.cell? x = W1.cell? x) → (∀ x, W.frozen? x = W1.frozen? x) → ∀ ty dc, (Builtin.copy_ #[35, 35] ty #[.slice (some ⟨g, i * 5, none⟩) (l.length + 1 - i) dc, .slice (some ⟨vb, 0, none⟩) 1 1]).run Tryz.prog W = .ok (goInt (Nat.min 1 (l.length + 1 - i))) (W.setCells g (i * 5) (fT t)) := fun W hWc hWf ty dc =>
    run_copy_cellsK W _ _ ty 45 g (i * 5) (l.length + 1 - i) dc ⟨vb, 0, none⟩ 1 1 (fT t) Tryz.underlying35 hsz (by simp only [lenT, Nat.min_def]; split <;> omega)
      (fun j v hj => by
        rw [Addr.add_lit, hWc, hW1, World.cell?_setCells_out g _ _ _ _ (fun h _ => absurd h hne)]
        rw [Nat.zero_add]
        exact hvs j v hj)
      (fun j hj => by
        have : j < 5 := hj
        rw [hWc, cell_of_row W1 g _ cur1 _ (0, 0) hcur1, Array.getElem?_eq_getElem (by omega)]; rfl) (fun j _ => by rw [hWf]; exact frozen_of_row W1 g _ cur1 _ hcur1) (oneT t)
  rw [← hW1] at hcp1
  have Hend : Hid (∀ W : World, (∀ x : Nat, W.heap[x]? = W1.heap[x]?) → W.os = W1.os → W.tape = W1.tape → W.output = W1.output → W.heap.size = W1.heap.size →
      OwnTb (W.setCells g (i * 5) (fT t)) B (.slice (some ⟨g, 0, none⟩) (l.length + 1) cap) (l.take i ++ t :: l.drop i) ∧ Off (fun x => x = g) w (W.setCells g (i * 5) (fT t))) := by
    intro W hWh h1 h2 h3 h4
    have hWc : ∀ x, W.cell? x = W1.cell? x := fun x => World.cell?_of_block (hWh _)
    obtain ⟨cur2, hcur2, hcs2⟩ := setCells_block g 45 (fT t) (i * 5) W cur1 ((hWh g).trans hcur1)
    have hel : (l.take i ++ t :: l.drop i).length = l.length + 1 := by simp; omega
    refine ⟨?_, ?_⟩
    · suffices h : OwnTb (W.setCells g (i * 5) (fT t)) B (.slice (some ⟨g, 0, none⟩) (l.take i ++ t :: l.drop i).length cap) (l.take i ++ t :: l.drop i) by rwa [hel] at h
      refine own_of_cells lenT hcur2 hB (by omega) hmax (by rw [hcs2, hcs1, hcs]) fun j x q v hj hv => ?_
      have hq : q < 5 := (List.getElem?_eq_some_iff.1 hv).1
      have hjl : j < l.length + 1 := by have := (List.getElem?_eq_some_iff.1 hj).1; omega
      rw [ins_get l t i j (by omega)] at hj
      by_cases hji : j < i
      · rw [if_pos hji] at hj
        rw [World.cell?_setCells_out g _ _ W _ (fun _ _ => .inl (by show j * 5 + q < _; omega)), hWc, hW1, World.cell?_setCells_out g _ _ w.drew _ (fun _ _ => .inl (by show j * 5 + q < _; omega))]
        exact hO.cell lenT hj hv
      · rw [if_neg hji] at hj
        by_cases hje : j = i
        · rw [if_pos hje] at hj; cases hj
          subst hje
          have := World.cell?_setCells_in g (fT t) (j * 5) W (fun p hp => by
            have : p < 5 := hp
            rw [hWc, cell_of_row W1 g _ cur1 _ (0, 0) hcur1, Array.getElem?_eq_getElem (by omega)]; rfl) q hq
          rw [this]; exact congrArg some (List.getElem?_eq_some_iff.1 hv).2
        · rw [if_neg hje] at hj
          rw [World.cell?_setCells_out g _ _ W _ (fun _ _ => .inr (by show i * 5 + (fT t).length ≤ j * 5 + q; rw [lenT]; omega)), hWc, hW1]
          have hin : (j - 1 - i) * 5 + q < tl.length := by rw [htll]; omega
          have := World.cell?_setCells_in g tl ((i + 1) * 5) w.drew (fun p hp => hcell _ (by rw [htll] at hp; omega)) ((j - 1 - i) * 5 + q) hin
          rw [show (i + 1) * 5 + ((j - 1 - i) * 5 + q) = j * 5 + q by omega] at this
          rw [this]
          have h2 := flat_get lenT (l.drop i) (j - 1 - i) x q v (by rw [List.getElem?_drop, show i + (j - 1 - i) = j - 1 by omega]; exact hj) hv
          rw [← htl, List.getElem?_eq_getElem hin] at h2
          exact h2
    · refine Off.trans ?_ (off_setCells g _ _ _)
      have h5 : Off (fun x => x = g) w W1 := by rw [hW1]; exact (off_drew w).trans (off_setCells g _ _ _)
      exact ⟨h1.trans h5.os, h2.trans h5.tape, h3.trans h5.output, by rw [h4]; exact h5.size, fun k hk hn => (hWh k).trans (h5.block k hk hn)⟩
  have hw1 : IntKind.i64.wrap ((i : Int) + 1) = (i : Int) + 1 := by rw [IntKind.wrap_i64]; omega
  have hw2 : IntKind.i64.wrap ((l.length : Int) + 1) = (l.length : Int) + 1 := by rw [IntKind.wrap_i64]; omega
  have hb1 : (0 : Int) ≤ (i : Int) + 1 := by omega
  have hb1' : (0 : Int) ≤ (l.length : Int) + 1 := by omega
  have hin : (i : Int) ≤ (l.length : Int) := by omega
  have htn : ((i : Int) + 1).toNat = i + 1 := by omega
  have htn2 : ((l.length : Int) + 1).toNat = l.length + 1 := by omega
  have hb2 : ¬ (cap = i + 1) := by omega
  have hb3 : (i : Int) ≤ (l.length : Int) + 1 := by omega
  have hb4 : ¬ (cap = i) := by omega
  have hb5 : (i : Int) + 1 ≤ (l.length : Int) + 1 := by omega
  have hb6 : (l.length : Int) + 1 ≤ (cap : Int) := by omega
  have hb7 : ¬ ((cap : Int) < (l.length : Int) + 1) := by omega
  have hz3 : ¬ ((i : Int) = (l.length : Int)) := by omega
  clear hW1 hO htls hcell hfro hcur hcur1 hcs hcs1 htl htll hvs hv
  go_enter Tryz.func72, Tryz.ntmps72
  go_wp2_with (simp only [hov])
  go_region_law (refine step_copy_runI rfl _ _ 35 35 rfl _ _ (by simp [Act.eval, Act.put]) (by simp [Act.eval, Act.put]) (hcp1 _ _ _) ?_)
  go_wp2_with (at_builtin; refine wpList_copy_runI _ rfl _ _ 35 35 rfl _ _ rfl rfl (hcp2 _ (fun _ => rfl) (fun _ => rfl) _ _) ?_)
  go_ret
  exact ⟨rfl, (Hend.out _ (fun _ => rfl) rfl rfl rfl rfl).1, (Hend.out _ (fun _ => rfl) rfl rfl rfl rfl).2⟩
end Go.Proofs.YtlbdbaafmdikcaaGreatDoor

/-
  slices.Insert at tables: no room (a new row), at the end, and all roads together.
-/
namespace Go.Proofs.YtlbdbaafmdikcaaGreatDoor
open Go.RowKit Go.Lib

set_option maxRecDepth 100000 in
set_option maxHeartbeats 4000000 in
theorem ins_grow_any (g cap i vb : Nat) (l : List Tb) (t : Tb) (w : World) (B : Nat) (hO : OwnTb w B (.slice (some ⟨g, 0, none⟩) l.length cap) l) (hi : i < l.length) (hroom : cap < l.length + 1) (hl : l.length ≤ 1000000) (hBw : B ≤ w.heap.size)
    (hv : w.heap[vb]? = some (.cells (fT t).toArray 45 (0, 0))) :
    Calls Tryz.prog 72 #[.slice (some ⟨g, 0, none⟩) l.length cap, .int .i64 (i : Int), .slice (some ⟨vb, 0, none⟩) 1 1] w fun e w' =>
      ∃ G, e = .returned (.slice (some ⟨w.heap.size, 0, none⟩) (l.length + 1) G) ∧ OwnTb w' B (.slice (some ⟨w.heap.size, 0, none⟩) (l.length + 1) G) (l.take i ++ t :: l.drop i) ∧ Below w.heap.size w w' := by
  have hO' := hO
  obtain ⟨_, h0 | ⟨g', cap', cur, hsl, hB, hcur, hcap, hmax, hcs, _⟩⟩ := hO'
  · omega
  cases hsl
  have hgw : g < w.heap.size := (Array.getElem?_eq_some_iff.1 hcur).1
  have hvw : vb < w.heap.size := (Array.getElem?_eq_some_iff.1 hv).1
  obtain ⟨i0, hi0, hz0, hz1, hz2⟩ := info_parts infoTb
  have hsz : (Tryz.prog.info? 45).map (·.size) = some 5 := by rw [hi0]; simp [hz1]
  have hvs : ∀ j v, (fT t)[j]? = some v → w.cell? ⟨vb, j, none⟩ = some v := fun j v hj => by
    rw [cell_of_row w vb j _ _ (0, 0) hv]; simpa using hj
  have hall : ∀ p u, (flt fT l)[p]? = some u → w.cell? ⟨g, p, none⟩ = some u := flat_all lenT l fun j x q v hj hv => hO.cell lenT hj hv
  have hflen : (flt fT l).length = l.length * 5 := flat_length lenT l
  obtain ⟨hd, hhd⟩ : ∃ hd, hd = flt fT (l.take i) := ⟨_, rfl⟩
  have hhdl : hd.length = i * 5 := by rw [hhd, flat_length lenT, List.length_take]; omega
  have hhds : ∀ p u, hd[p]? = some u → w.cell? ⟨g, p, none⟩ = some u := fun p u hp => by
    have hpl := (List.getElem?_eq_some_iff.1 hp).1
    refine hall p u ?_
    rw [hhd, ← flt_take lenT, List.getElem?_take] at hp
    split at hp
    · exact hp
    · cases hp
  obtain ⟨tl, htl⟩ : ∃ tl, tl = flt fT (l.drop i) := ⟨_, rfl⟩
  have htll : tl.length = (l.length - i) * 5 := by rw [htl, flat_length lenT, List.length_drop]
  have htls : ∀ p u, tl[p]? = some u → w.cell? ⟨g, i * 5 + p, none⟩ = some u := fun p u hp => by
    refine hall _ u ?_
    rw [htl, ← flat_drop lenT, List.getElem?_drop] at hp
    exact hp
  have hkk : (l.length : Int) + 1 - (i : Int) = ((l.length + 1 - i : Nat) : Int) := by omega
  have hik : i + (l.length + 1 - i) = l.length + 1 := by omega
  have hold : (Builtin.firstCells i0.size i (.slice (some ⟨g, 0, none⟩) i cap)).run Tryz.prog w.drew = .ok hd.toArray w.drew := by
    rw [hz1]
    exact run_firstCells_some w.drew 5 i ⟨g, 0, none⟩ i cap hd hhdl (fun j v hj => by
      rw [Addr.add_lit, Nat.zero_add]
      exact hhds j v hj)
  obtain ⟨G, hG⟩ : ∃ G, G = grownCap w (l.length + 1) cap 45 := ⟨_, rfl⟩
  obtain ⟨ROW, hROW⟩ : ∃ ROW : Array Value, ROW = hd.toArray ++ Builtin.zeroCells (Value.agg #[.int .i64 0, .string ByteArray.empty, .int .i64 0, .int .i64 0, .slice none 0 0]).cells (l.length + 1 - i) ++ Builtin.zeroCells (Value.agg #[.int .i64 0, .string ByteArray.empty, .int .i64 0, .int .i64 0, .slice none 0 0]).cells (G - (l.length + 1)) := ⟨_, rfl⟩
  have hrz : ∀ ty, (Builtin.append_ #[35, 3] ty #[.slice (some ⟨g, 0, none⟩) i cap, .int .i64 ((l.length : Int) + 1 - (i : Int))]).run Tryz.prog w =
      .ok (.slice (some ⟨w.heap.size, 0, none⟩) (l.length + 1) G) (w.drew.alloc (.cells ROW 45)) := fun ty => by
    have h := Lib.run_append_grow_zeros w 35 3 ty 45 i0 _ .i64 .i64 Tryz.underlying35 Tryz.underlying3 hi0 hz0 (some ⟨g, 0, none⟩) i cap hd hold (l.length + 1 - i) (by omega) (by omega) (by omega) (by omega) (by rw [hz2]; omega) (by rw [hz2, hik]; exact growslice_fits hroom (by omega))
    rw [hik] at h
    rw [hkk, hROW, hG]
    exact h
  have hGn : l.length + 1 ≤ G := by rw [hG]; exact grownCap_ge w _ _ _
  have hGm : G ≤ maxLen := by rw [hG]; exact grownCap_le_maxLen w (l.length + 1) cap 45 (by unfold maxLen; omega)
  have hG63 : G ≤ 9223372036854775807 := by
    have := hGm
    unfold maxLen at this
    omega
  have hRs : ROW.size = G * 5 := by
    rw [hROW]
    simp [Builtin.zeroCells, Value.cells, hhdl]
    omega
  have hRh : ∀ p u, hd[p]? = some u → ROW[p]? = some u := fun p u hp => by
    have hpl := (List.getElem?_eq_some_iff.1 hp).1
    rw [hROW, Array.getElem?_append_left (by simp; omega), Array.getElem?_append_left (by simpa using hpl)]
    simpa using hp
  clear hROW hG
  obtain ⟨W1, hW1⟩ : ∃ W1, W1 = w.drew.alloc (.cells ROW 45) := ⟨_, rfl⟩
  rw [← hW1] at hrz
  have hcur1 : W1.heap[w.heap.size]? = some (.cells ROW 45 (0, 0)) := by rw [hW1]; exact heap_alloc_new w.drew _
  have hN : ∀ j, j < G * 5 → (W1.cell? ⟨w.heap.size, j, none⟩).isSome = true := fun j hj => by
    rw [cell_of_row W1 w.heap.size j ROW _ (0, 0) hcur1, Array.getElem?_eq_getElem (by omega)]; rfl
  have hNf : ∀ j, W1.frozen? ⟨w.heap.size, j, none⟩ = false := fun j => frozen_of_row W1 w.heap.size j ROW _ hcur1
  have hOld : ∀ k, k < w.heap.size → W1.heap[k]? = w.heap[k]? := fun k hk => by rw [hW1]; exact ((Below.refl w.heap.size w.drew).alloc (Nat.le_refl _) _).block k hk
  have hOc : ∀ b j v, b < w.heap.size → w.cell? ⟨b, j, none⟩ = some v → W1.cell? ⟨b, j, none⟩ = some v := fun b j v hb h => (World.cell?_of_block (hOld b hb)).trans h
  have hcpA : ∀ (W : World), (∀ x, W.cell? x = W1.cell? x) → (∀ x, W.frozen? x = W1.frozen? x) → ∀ ty dc, (Builtin.copy_ #[35, 35] ty #[.slice (some ⟨w.heap.size, i * 5, none⟩) (l.length + 1 - i) dc, .slice (some ⟨vb, 0, none⟩) 1 1]).run Tryz.prog W = .ok (goInt (Nat.min 1 (l.length + 1 - i))) (W.setCells w.heap.size (i * 5) (fT t)) := fun W hWc hWf ty dc =>
    run_copy_cellsK W _ _ ty 45 w.heap.size (i * 5) (l.length + 1 - i) dc ⟨vb, 0, none⟩ 1 1 (fT t) Tryz.underlying35 hsz (by simp only [lenT, Nat.min_def]; split <;> omega)
      (fun j v hj => by rw [Addr.add_lit, hWc, Nat.zero_add]; exact hOc _ _ v hvw (hvs j v hj))
      (fun j hj => by have : j < 5 := hj; rw [hWc]; exact hN _ (by omega)) (fun j _ => by rw [hWf]; exact hNf _) (oneT t)
  have hbN : g ≠ w.heap.size := by omega
  have hcpB : ∀ (W : World), (∀ x, W.cell? x = (W1.setCells w.heap.size (i * 5) (fT t)).cell? x) → (∀ x, W.frozen? x = (W1.setCells w.heap.size (i * 5) (fT t)).frozen? x) → ∀ ty dc sc, (Builtin.copy_ #[35, 35] ty #[.slice (some ⟨w.heap.size, (i + 1) * 5, none⟩) (l.length - i) dc, .slice (some ⟨g, i * 5, none⟩) (l.length - i) sc]).run Tryz.prog W = .ok (goInt (Nat.min (l.length - i) (l.length - i))) (W.setCells w.heap.size ((i + 1) * 5) tl) := fun W hWc hWf ty dc sc =>
    run_copy_cellsK W _ _ ty 45 w.heap.size ((i + 1) * 5) (l.length - i) dc ⟨g, i * 5, none⟩ (l.length - i) sc tl Tryz.underlying35 hsz (by rw [htll]; simp only [Nat.min_def]; split <;> omega)
      (fun j v hj => by
        rw [Addr.add_lit, hWc, World.cell?_setCells_out _ _ _ _ _ (fun h _ => absurd h hbN)]
        exact hOc _ _ v hgw (htls j v hj))
      (fun j hj => by rw [hWc]; exact isSome_setCells _ _ _ _ (fun p hp => hN _ (by have : p < 5 := hp; omega)) _ (hN _ (by rw [htll] at hj; omega)))
      (fun j _ => by rw [hWf, World.frozen?_setCells]; exact hNf _) (by rw [htl]; exact flat_mem oneT _)
  have Hend : Hid (∀ W : World, (∀ x : Nat, W.heap[x]? = (W1.setCells w.heap.size (i * 5) (fT t)).heap[x]?) → W.os = w.os → W.tape = w.tape → W.output = w.output → w.heap.size ≤ W.heap.size →
      OwnTb (W.setCells w.heap.size ((i + 1) * 5) tl) B (.slice (some ⟨w.heap.size, 0, none⟩) (l.length + 1) G) (l.take i ++ t :: l.drop i) ∧ Below w.heap.size w (W.setCells w.heap.size ((i + 1) * 5) tl)) := by
    intro W hWh h1 h2 h3 h4
    have hWc : ∀ x, W.cell? x = (W1.setCells w.heap.size (i * 5) (fT t)).cell? x := fun x => World.cell?_of_block (hWh _)
    obtain ⟨cur2, hcur2, hcs2⟩ := setCells_block w.heap.size 45 (fT t) (i * 5) W1 ROW hcur1
    obtain ⟨cur3, hcur3, hcs3⟩ := setCells_block w.heap.size 45 tl ((i + 1) * 5) W cur2 ((hWh _).trans hcur2)
    have hel : (l.take i ++ t :: l.drop i).length = l.length + 1 := by simp; omega
    have hW2 : ∀ j, j < G * 5 → (W.cell? ⟨w.heap.size, j, none⟩).isSome = true := fun j hj => by
      rw [cell_of_row W w.heap.size j cur2 _ (0, 0) ((hWh _).trans hcur2), Array.getElem?_eq_getElem (by omega)]; rfl
    refine ⟨?_, ?_⟩
    · suffices h : OwnTb (W.setCells w.heap.size ((i + 1) * 5) tl) B (.slice (some ⟨w.heap.size, 0, none⟩) (l.take i ++ t :: l.drop i).length G) (l.take i ++ t :: l.drop i) by rwa [hel] at h
      refine own_of_cells lenT hcur3 hBw (by omega) hGm (by rw [hcs3, hcs2, hRs]) fun j x q v hj hv => ?_
      have hq : q < 5 := (List.getElem?_eq_some_iff.1 hv).1
      have hjl : j < l.length + 1 := by have := (List.getElem?_eq_some_iff.1 hj).1; omega
      rw [ins_get l t i j (by omega)] at hj
      by_cases hji : j < i
      · rw [if_pos hji] at hj
        rw [World.cell?_setCells_out _ _ _ W _ (fun _ _ => .inl (by show j * 5 + q < _; omega)), hWc, World.cell?_setCells_out _ _ _ W1 _ (fun _ _ => .inl (by show j * 5 + q < _; omega)), cell_of_row W1 w.heap.size _ ROW _ (0, 0) hcur1]
        refine hRh _ v ?_
        rw [hhd]
        exact flat_get lenT (l.take i) j x q v (by rw [List.getElem?_take, if_pos hji]; exact hj) hv
      · rw [if_neg hji] at hj
        by_cases hje : j = i
        · rw [if_pos hje] at hj; cases hj
          subst hje
          rw [World.cell?_setCells_out _ _ _ W _ (fun _ _ => .inl (by show j * 5 + q < _; omega)), hWc]
          have := World.cell?_setCells_in w.heap.size (fT t) (j * 5) W1 (fun p hp => hN _ (by have : p < 5 := hp; omega)) q hq
          rw [this]; exact congrArg some (List.getElem?_eq_some_iff.1 hv).2
        · rw [if_neg hje] at hj
          have hin : (j - 1 - i) * 5 + q < tl.length := by rw [htll]; omega
          have := World.cell?_setCells_in w.heap.size tl ((i + 1) * 5) W (fun p hp => hW2 _ (by rw [htll] at hp; omega)) ((j - 1 - i) * 5 + q) hin
          rw [show (i + 1) * 5 + ((j - 1 - i) * 5 + q) = j * 5 + q by omega] at this
          rw [this]
          have h2 := flat_get lenT (l.drop i) (j - 1 - i) x q v (by rw [List.getElem?_drop, show i + (j - 1 - i) = j - 1 by omega]; exact hj) hv
          rw [← htl, List.getElem?_eq_getElem hin] at h2
          exact h2
    · have h5 := off_setCells w.heap.size tl ((i + 1) * 5) W
      have h6 := off_setCells w.heap.size (fT t) (i * 5) W1
      refine ⟨h5.os.trans h1, h5.tape.trans h2, h5.output.trans h3, Nat.le_trans h4 h5.size, fun k hk => ?_⟩
      rw [h5.block k (by omega) (by omega), hWh, h6.block k (by rw [hW1]; simp; omega) (by omega), hOld k hk]
  subst hW1
  have hdr : w.drew.alloc (.cells ROW 45) = (w.alloc (.cells ROW 45)).drew := rfl
  have hdc : ∀ (X : World) x, X.drew.cell? x = X.cell? x := fun _ _ => rfl
  have hdf : ∀ (X : World) x, X.drew.frozen? x = X.frozen? x := fun _ _ => rfl
  have hE1 : ∀ x, ((w.alloc (.cells ROW 45)).drew).cell? x = (w.drew.alloc (.cells ROW 45)).cell? x := fun x => by rw [hdr]
  have hE2 : ∀ x, ((w.alloc (.cells ROW 45)).drew).frozen? x = (w.drew.alloc (.cells ROW 45)).frozen? x := fun x => by rw [hdr]
  have hF1 : ∀ x, (((w.alloc (.cells ROW 45)).drew.setCells w.heap.size (i * 5) (fT t)).drew).cell? x = ((w.drew.alloc (.cells ROW 45)).setCells w.heap.size (i * 5) (fT t)).cell? x := fun x => by rw [hdr]; exact hdc _ x
  have hF2 : ∀ x, (((w.alloc (.cells ROW 45)).drew.setCells w.heap.size (i * 5) (fT t)).drew).frozen? x = ((w.drew.alloc (.cells ROW 45)).setCells w.heap.size (i * 5) (fT t)).frozen? x := fun x => by rw [hdr]; exact hdf _ x
  have hw1 : IntKind.i64.wrap ((i : Int) + 1) = (i : Int) + 1 := by rw [IntKind.wrap_i64]; omega
  have hw2 : IntKind.i64.wrap ((l.length : Int) + 1) = (l.length : Int) + 1 := by rw [IntKind.wrap_i64]; omega
  have hw3 : IntKind.i64.wrap ((l.length : Int) + 1 - (i : Int)) = (l.length : Int) + 1 - (i : Int) := by rw [IntKind.wrap_i64]; omega
  have hb1 : (0 : Int) ≤ (i : Int) + 1 := by omega
  have hin : (i : Int) ≤ (l.length : Int) := by omega
  have htn : ((i : Int) + 1).toNat = i + 1 := by omega
  have hb3 : (i : Int) ≤ (cap : Int) := by omega
  have hb4 : ¬ (cap = i) := by omega
  have hb5 : (i : Int) + 1 ≤ (l.length : Int) + 1 := by omega
  have hb7 : (cap : Int) < (l.length : Int) + 1 := by omega
  have hb8 : (i : Int) ≤ (l.length : Int) + 1 := by omega
  have hGi : ¬ (G = i) := by omega
  have hGim : ¬ (G = i + 1) := by omega
  have hz3 : ¬ ((i : Int) = (l.length : Int)) := by omega
  have hdh : ∀ (X : World) (x : Nat), X.drew.heap[x]? = X.heap[x]? := fun _ _ => rfl
  have hoS := off_setCells w.heap.size (fT t) (i * 5) (w.alloc (.cells ROW 45)).drew
  have hlS : w.heap.size ≤ (w.alloc (.cells ROW 45)).drew.heap.size := ((Below.refl w.heap.size w).alloc (Nat.le_refl _) _).size
  have key : ∀ X : World, X = (w.alloc (.cells ROW 45)).drew.setCells w.heap.size (i * 5) (fT t) → X.os = w.os → X.tape = w.tape → X.output = w.output → w.heap.size ≤ X.heap.size →
      OwnTb (X.drew.setCells w.heap.size ((i + 1) * 5) tl) B (.slice (some ⟨w.heap.size, 0, none⟩) (l.length + 1) G) (l.take i ++ t :: l.drop i) ∧ Below w.heap.size w (X.drew.setCells w.heap.size ((i + 1) * 5) tl) := fun X hX e1 e2 e3 e4 =>
    Hend.out X.drew (fun x => by rw [hdr, ← hX]; exact hdh X x) e1 e2 e3 e4
  have q1 : (w.alloc (.cells ROW 45)).drew.os = w.os := rfl
  have q2 : (w.alloc (.cells ROW 45)).drew.tape = w.tape := rfl
  have q3 : (w.alloc (.cells ROW 45)).drew.output = w.output := rfl
  have HendW := Lib.hid (key _ rfl (by rw [hoS.os, q1]) (by rw [hoS.tape, q2]) (by rw [hoS.output, q3]) (Nat.le_trans hlS hoS.size))
  clear key q1 q2 q3
  clear Hend hdh hoS hlS
  clear hdr hdc hdf
  clear hkk hik hold hO hall hhds htls hvs hv hRh hRs hcur hcur1 hN hNf hOld hOc htl hhd hcs hhdl htll hflen
  go_enter Tryz.func72, Tryz.ntmps72
  go_wp2_with (first
    | (at_builtin; refine Lib.wpList_append_run _ rfl _ _ _ _ rfl _ _ rfl rfl _ _ (hrz _) ?_)
    | (at_builtin; refine wpList_copy_runI _ rfl _ _ 35 35 rfl _ _ rfl rfl (hcpA _ hE1 hE2 _ _) ?_)
    | (at_builtin; refine wpList_copy_runI _ rfl _ _ 35 35 rfl _ _ rfl rfl (hcpB _ (fun _ => rfl) (fun _ => rfl) _ _ _) ?_))
  go_region_law (refine step_copy_runI rfl _ _ 35 35 rfl (.slice (some ⟨w.heap.size, (i + 1) * 5, none⟩) (l.length - i) (G - (i + 1))) (.slice (some ⟨g, i * 5, none⟩) (l.length - i) (cap - i)) (by simp [Act.eval, Act.put]) (by simp [Act.eval, Act.put]) (hcpB _ hF1 hF2 3 (G - (i + 1)) (cap - i)) ?_)
  go_wp2
  go_ret
  exact ⟨G, rfl, HendW.out.1, HendW.out.2⟩
set_option maxRecDepth 100000 in
set_option maxHeartbeats 4000000 in
theorem ins_end_any (v : Value) (vb : Nat) (l : List Tb) (t : Tb) (w : World) (B : Nat) (hO : OwnTb w B v l) (hl : l.length ≤ 1000000) (hBw : B ≤ w.heap.size)
    (hv : w.heap[vb]? = some (.cells (fT t).toArray 45 (0, 0))) :
    Calls Tryz.prog 72 #[v, .int .i64 (l.length : Int), .slice (some ⟨vb, 0, none⟩) 1 1] w fun e w' =>
      ∃ v', e = .returned v' ∧ OwnTb w' B v' (l ++ [t]) ∧ w.grownBy w' v.ownBlock := by
  have HO := Lib.hid hO
  obtain ⟨A, cap, rfl, hlc, hcm, hn⟩ := hO.form
  clear hO
  unfold maxLen at hcm
  have hvr : Hid (RowAt 5 fT w w.heap.size (some ⟨vb, 0, none⟩) [t]) := fun _ => ⟨vb, 0, rfl, (Array.getElem?_eq_some_iff.1 hv).1, fun j x hj i u hu => by
    cases j with
    | zero =>
      simp at hj; subst hj
      rw [cell_of_row w vb _ _ _ (0, 0) hv]
      simpa using hu
    | succ j => simp at hj⟩
  clear hv hn
  generalize hob : (Value.slice A l.length cap).ownBlock = ob
  have Hob := Lib.hid hob
  clear hob
  go_enter Tryz.func72, Tryz.ntmps72
  go_wp2_with (at_builtin; refine wpList_append_rows Tryz.underlying35 infoTb rfl (by decide) (by decide) lenT oneT rfl _ _ rfl B _ l (some ⟨vb, 0, none⟩) 1 1 [t] HO.out rfl rfl rfl (fun h => by cases h) hvr.out (by simp; omega) hBw ?_; intro v1 w1 ho1 hg1)
  all_goals (go_ret; exact ⟨_, rfl, ho1, by rw [← Hob.out]; exact hg1⟩)
/-- all roads -/
theorem tins_any (v : Value) (i vb : Nat) (l : List Tb) (t : Tb) (w : World) (B : Nat) (hO : OwnTb w B v l) (hi : i ≤ l.length) (hl : l.length ≤ 1000000) (hBw : B ≤ w.heap.size)
    (hne : v.ownBlock ≠ some vb) (hv : w.heap[vb]? = some (.cells (fT t).toArray 45 (0, 0))) :
    Calls Tryz.prog 72 #[v, .int .i64 (i : Int), .slice (some ⟨vb, 0, none⟩) 1 1] w fun e w' =>
      ∃ v', e = .returned v' ∧ OwnTb w' B v' (l.take i ++ t :: l.drop i) ∧ Off (fun x => v.ownBlock = some x) w w' := by
  by_cases he : i = l.length
  · subst he
    refine (ins_end_any v vb l t w B hO hl hBw hv).mono ?_
    rintro e w' ⟨v', rfl, h1, h2⟩
    exact ⟨v', rfl, by rw [List.take_length, List.drop_length]; exact h1, Off.of_grown h2⟩
  · obtain ⟨g, cap, rfl, hg1, hg2, hg3, hg4⟩ := hO.shape (by omega)
    by_cases hr : l.length + 1 ≤ cap
    · refine (ins_room_any g cap i vb l t w B hO (by omega) hr hl (fun e => hne (by rw [e]; rfl)) hv).mono ?_
      rintro e w' ⟨rfl, h1, h2⟩
      exact ⟨_, rfl, h1, h2.mono fun k _ hk => by rw [hk]; rfl⟩
    · refine (ins_grow_any g cap i vb l t w B hO (by omega) (by omega) hl hBw hv).mono ?_
      rintro e w' ⟨G, rfl, h1, h2⟩
      exact ⟨_, rfl, h1, .of_below h2⟩
end Go.Proofs.YtlbdbaafmdikcaaGreatDoor

/-
  Contract of package ddl's create.
-/
namespace Go.Proofs.YtlbdbaafmdikcaaGreatDoor
open Go.RowKit

theorem ins_count {t : Tp} : ∀ {L : List Tp}, L.Pairwise (Apart Tp.id Tp.nm) → (∀ x ∈ L, x.id ≠ t.id) →
    L.take (L.countP fun x => decide (x.id < t.id)) ++ t :: L.drop (L.countP fun x => decide (x.id < t.id)) = insT t L
  | [], _, _ => rfl
  | x :: r, hp, hn => by
    rw [List.pairwise_cons] at hp
    unfold insT
    have hx := hn x List.mem_cons_self
    by_cases h : t.id < x.id
    · rw [if_pos h]
      have e : (x :: r).countP (fun x => decide (x.id < t.id)) = 0 := by
        rw [List.countP_eq_zero]
        intro y hy
        rcases List.mem_cons.1 hy with rfl | hy
        · simp; omega
        · have := (hp.1 y hy).1
          simp; omega
      rw [e]; rfl
    · rw [if_neg h, ← ins_count hp.2 fun y hy => hn y (List.mem_cons_of_mem _ hy)]
      rw [List.countP_cons, show decide (x.id < t.id) = true by simp; omega]
      simp
theorem countP_p (l : List Tb) (id : Int) : (l.countP fun t => decide (t.id < id)) = (l.map Tb.p).countP fun x => decide (x.id < id) := by
  rw [List.countP_map]; rfl
theorem find_p (l : List Tb) (s : ByteArray) : (l.findIdx? fun x => eqS x.nm s) = findT (l.map Tb.p) s := by
  unfold findT
  rw [List.findIdx?_map]; rfl
theorem byId_p (l : List Tb) (id : Int) : (l.findIdx? fun x => x.id == id) = (l.map Tb.p).findIdx? fun t => t.id == id := by
  rw [List.findIdx?_map]; rfl
/-- where a catalog that a change made lies -/
def CatAt (w : World) (A : Option Addr) (cap : Nat) (l : List Tb) : Prop := TabsAt w w.heap.size A l ∧ l.length ≤ cap ∧ ∀ t ∈ l, t.cols.length ≤ t.cap
theorem own_ne {w : World} {B bx : Nat} {v x : Value} {l : List Tb} (h : OwnTb w B v l) (hb : w.heap[bx]? = some (.cells #[x] 37 (0, 0))) : v.ownBlock ≠ some bx := fun e => by
  rcases h.2 with ⟨rfl, _⟩ | ⟨g, cap, cur, rfl, _, hg, _⟩
  · cases e
  · simp [Value.ownBlock] at e
    subst e
    rw [hb] at hg
    simp at hg
theorem box_tabO (w : World) (t : Tb) : ∃ w0, w.alloc (.cells #[.int .i64 t.id, .string t.nm, .int .i64 t.key, .int .i64 t.nx, .slice t.A t.cols.length t.cap] 45) = w0 ∧ Below w.heap.size w w0 ∧ OwnTb w0 w.heap.size (.slice (some ⟨w.heap.size, 0, none⟩) 1 1) [t] ∧ w0.heap.size = w.heap.size + 1 :=
  ⟨_, rfl, below_one w _, OwnR.box _ _ fT lenT w t, by simp⟩
set_option maxRecDepth 100000 in
set_option maxHeartbeats 6000000 in
theorem create_any (bx : Nat) (A : Option Addr) (cap : Nat) (l : List Tb) (d : Db) (id : Int) (w : World) (B Bc : Nat) (ht : UTab w) (hO : OwnCat w B Bc (.slice A l.length cap) l) (hbx : w.heap[bx]? = some (.cells #[.slice A l.length cap] 37 (0, 0)))
    (hbn : ¬ InCat (.slice A l.length cap) l bx) (hD : DdlAt w w.heap.size d) (hBw : B ≤ w.heap.size) (hl : l.length ≤ 6) (hs : (l.map Tb.p).Pairwise (Apart Tp.id Tp.nm)) (hn : d.p.tb.size ≤ 1000000) (hw : ∀ c ∈ d.p.cols, c.nm.size ≤ 1000000) :
    Calls Tryz.prog 51 #[.pointer (some ⟨bx, 0, none⟩), DV d, .int .i64 id] w fun e w' => e = .returned (.int .i64 (createE (l.map Tb.p) d.p id)) ∧ Off (fun x => InCat (.slice A l.length cap) l x ∨ x = bx) w w' ∧
      (createE (l.map Tb.p) d.p id = 0 → ∃ A' cap' l', w'.cell? ⟨bx, 0, none⟩ = some (.slice A' l'.length cap') ∧ CatAt w' A' cap' l' ∧ l'.map Tb.p = insT (madeT d.p id) (l.map Tb.p)) := by
  have hbxw : bx < w.heap.size := (Array.getElem?_eq_some_iff.1 hbx).1
  obtain ⟨w0, hw0, hb0, hX, hs0⟩ := box_ddl w d
  have Hw0 := Lib.hid hw0; clear hw0
  have Hb0 := Lib.hid hb0
  have HO := Lib.hid hO; clear hO
  have HA0 := Lib.hid (HO.out.at.to hb0)
  have HD0 := Lib.hid (hD.to hb0); clear hD
  have HT := Lib.hid (ht.below hb0 (Nat.le_refl _)); clear ht
  have Hs0 := Lib.hid hs0; clear hs0
  have HX := Lib.hid hX
  have Hbx := Lib.hid hbx
  have Hbx0 : Hid (w0.heap[bx]? = some (.cells #[.slice A l.length cap] 37 (0, 0))) := (hb0.block bx hbxw).trans hbx
  clear hbx hb0
  have Hbn := Lib.hid hbn; clear hbn
  have Hsr := Lib.hid hs; clear hs
  have HWc := Lib.hid hw; clear hw
  have HN := Lib.hid (nright_any d.p.tb w0 hn)
  rw [← Hw0.out] at HN
  have HH := Lib.hid (fun w' hA' => hastab_any A cap l d.p.tb w' hA' (by omega))
  have HI := Lib.hid (fun w' hA' => hasid_any A cap l id w' hA' (by omega))
  rw [find_p] at HH
  rw [byId_p] at HI
  have Hlm : Hid ((l.map Tb.p).length = l.length) := List.length_map _
  have Hv : Hid (createE (l.map Tb.p) d.p id = if rightN (bs d.p.tb) = true then
    if (findT (l.map Tb.p) d.p.tb).isSome = true then 14 else if 6 ≤ l.length then 3 else if ((l.map Tb.p).findIdx? fun t => t.id == id).isSome = true then 24 else filE d.p
    else 8) := by show _ = _; unfold createE filE; rw [Hlm.out]; rfl
  have HnId : Hid (((l.map Tb.p).findIdx? fun t => t.id == id).isSome = false → ∀ x ∈ l.map Tb.p, x.id ≠ id) := fun h x hx e => by
    rw [Option.isSome_eq_false_iff, Option.isNone_iff_eq_none, List.findIdx?_eq_none_iff] at h
    have := h x hx
    rw [e] at this
    simp at this
  generalize createE (l.map Tb.p) d.p id = E at Hv ⊢
  generalize rightN (bs d.p.tb) = b1 at HN Hv
  generalize (findT (l.map Tb.p) d.p.tb).isSome = b2 at HH Hv
  generalize ((l.map Tb.p).findIdx? fun t => t.id == id).isSome = b3 at HI Hv HnId
  have HAd : Hid (TabsAt w0.drew w0.drew.heap.size A l) := HA0.out.below (Below.refl _ _).drew
  obtain ⟨x0, x1, x2, x3, x4, x5, x6, x7, x8, x9, x10, x11⟩ := hX.ddl
  clear hX
  cases b1
  · have He : Hid (E = 8) := Hv.out
    go_enter Tryz.func51, Tryz.ntmps51
    go_wp2_with fail
    refine HN.out.mono ?_
    rintro e w1 ⟨rfl, hb1⟩
    rw [Hw0.out] at hb1
    subst hb1
    go_wp2_with fail
    go_ret
    exact ⟨by rw [He.out]; rfl, .of_below Hb0.out, fun h => by rw [He.out] at h; cases h⟩
  have c0 : w0.cell? ⟨bx, 0, none⟩ = some (.slice A l.length cap) := by rw [cell_of_row w0 bx 0 _ _ (0, 0) Hbx0.out]; rfl
  have Hc0 := Lib.hid c0
  cases b2
  case true =>
    have He : Hid (E = 14) := Hv.out
    go_enter Tryz.func51, Tryz.ntmps51
    go_wp2_with fail
    refine HN.out.mono ?_
    rintro e w1 ⟨rfl, hb1⟩
    rw [Hw0.out] at hb1
    subst hb1
    go_wp2_with fail
    go_region_with (first
      | (go_at_call 69; refine (HH.out _ HAd.out).mono ?_; rintro e w2 ⟨rfl, hb2⟩; have Hb2 := Lib.hid (bthen Hb0.out ((Below.refl w0.heap.size w0).drew.trans hb2)); clear hb2)
      | fail)
    all_goals
      go_wp2_with fail
      go_ret
      exact ⟨by rw [He.out]; rfl, .of_below Hb2.out, fun h => by rw [He.out] at h; cases h⟩
  go_enter Tryz.func51, Tryz.ntmps51
  go_wp2_with fail
  refine HN.out.mono ?_
  rintro e w1 ⟨rfl, hb1⟩
  rw [Hw0.out] at hb1
  subst hb1
  go_wp2_with fail
  have hne : Nonempty (BelowBy w0.heap.size w0) := ⟨⟨w0, Below.refl _ _⟩⟩
  have P0 : ∀ p : BelowBy w0.heap.size w0, p.x.cell? ⟨bx, 0, none⟩ = some (.slice A l.length cap) := fun p => (p.h.cell (p := ⟨bx, 0, none⟩) (World.block_lt_of_cell? w0 _ Hc0.out)).trans Hc0.out
  have P1 : ∀ p : BelowBy w0.heap.size w0, p.x.cell? ⟨w.heap.size, 1, none⟩ = some (.string d.p.tb) := fun p => (HX.out.below p.h (by have := Hs0.out; omega)).ddl.2.1
  refine wp_region_below w0.heap.size (by kernel_rfl) (by kernel_rfl) ?_
  repeat (
    with_reducible refine wpQuiet_step (fun K hK => ?_)
    go_simp
    refine hK _ ?_
    clear hK K)
  with_reducible refine wpQuiet_step (fun K hK => ?_)
  go_simp
  apply Exists.intro
  refine ⟨fun p => ?_, hK _ ?_⟩
  exact (HH.out _ (HA0.out.to p.h)).mono fun e w5 ⟨he, hb⟩ => ⟨he, p.step (Nat.le_refl _) hb⟩
  clear hK K
  repeat (
    with_reducible refine wpQuiet_step (fun K hK => ?_)
    go_simp
    refine hK _ ?_
    clear hK K)
  refine wpQuiet_nil ?_
  rintro _ ⟨p, rfl⟩
  have Hb2 := Lib.hid p.h
  generalize p.x = w2 at Hb2 ⊢
  clear P0 P1 hne p
  all_goals
    clear c0 x0 x1 x2 x3 x4 x5 x6 x7 x8 x9 x10 x11
    have c0 := (Hb2.out.cell (p := ⟨bx, 0, none⟩) (World.block_lt_of_cell? w0 _ Hc0.out)).trans Hc0.out
    have HX2 := Lib.hid (HX.out.below Hb2.out (by have := Hs0.out; omega))
    obtain ⟨x0, x1, x2, x3, x4, x5, x6, x7, x8, x9, x10, x11⟩ := HX2.out.ddl
    by_cases h6 : l.length = 6
    · have He : Hid (E = 3) := by show _ = _; rw [Hv.out]; simp [h6]
      have hq : ((l.length : Int) == 6) = true := by rw [beq_iff_eq]; omega
      have HbE := Lib.hid (bthen Hb0.out Hb2.out)
      clear h6 hl
      go_wp2_with fail
      go_ret
      exact ⟨by rw [He.out]; rfl, .of_below HbE.out, fun h => by rw [He.out] at h; cases h⟩
    have hq : ((l.length : Int) == 6) = false := by rw [beq_eq_false_iff_ne]; omega
    have Hv2 : Hid (E = if b3 = true then 24 else filE d.p) := by show _ = _; rw [Hv.out]; simp [show ¬ 6 ≤ l.length by omega]
    have hl5 : l.length ≤ 5 := by omega
    clear h6 hl
    have HI2 := Lib.hid (HI.out w2 (HA0.out.to Hb2.out))
    cases b3
    case true =>
      have He : Hid (E = 24) := Hv2.out
      go_wp2_with fail
      refine HI2.out.mono ?_
      rintro e w3 ⟨rfl, hb3⟩
      have HbE := Lib.hid (bthen (bthen Hb0.out Hb2.out) hb3); clear hb3
      go_wp2_with fail
      go_ret
      exact ⟨by rw [He.out]; rfl, .of_below HbE.out, fun h => by rw [He.out] at h; cases h⟩
    have He : Hid (E = filE d.p) := Hv2.out
    clear Hv2
    go_wp2_with fail
    refine HI2.out.mono ?_
    rintro e w3 ⟨rfl, hb3⟩
    have Hb3 := Lib.hid (bthen Hb2.out hb3)
    have Hbw3 := Lib.hid (bthen (bthen Hb0.out Hb2.out) hb3)
    clear hb3 c0 x0 x1 x2 x3 x4 x5 x6 x7 x8 x9 x10 x11
    have HX3 := Lib.hid (HX.out.below Hb3.out (by have := Hs0.out; omega))
    obtain ⟨x0, x1, x2, x3, x4, x5, x6, x7, x8, x9, x10, x11⟩ := HX3.out.ddl
    obtain ⟨w4, hw4, hb4, hT4, hs4⟩ := box_tabO w3 ⟨id, d.p.tb, 0, 0, none, 0, []⟩
    have Hw4 := Lib.hid hw4; clear hw4
    have Hs4 := Lib.hid hs4; clear hs4
    have hu3 := (HT.out.below Hb3.out (Nat.le_refl _)).pos
    have HFi := Lib.hid (fill_any w3.heap.size ⟨id, d.p.tb, 0, 0, none, 0, []⟩ d w4 ((HT.out.below Hb3.out (Nat.le_refl _)).below hb4 (Nat.le_refl _)) hT4 rfl rfl hu3 rfl rfl (RowAt.below (HD0.out.to Hb3.out) hb4) HWc.out)
    rw [← Hw4.out] at HFi
    have Hbw4 := Lib.hid (bthen Hbw3.out hb4)
    clear hb4 hT4 hu3
    have Hsz3 : Hid (w.heap.size ≤ w3.heap.size) := Hbw3.out.size
    have k0 := fun o => keep_alloc x0 o
    have k1 := fun o => keep_alloc x1 o
    have k2 := fun o => keep_alloc x2 o
    have k3 := fun o => keep_alloc x3 o
    have k4 := fun o => keep_alloc x4 o
    have k5 := fun o => keep_alloc x5 o
    have k6 := fun o => keep_alloc x6 o
    have k7 := fun o => keep_alloc x7 o
    have k8 := fun o => keep_alloc x8 o
    have k9 := fun o => keep_alloc x9 o
    have k10 := fun o => keep_alloc x10 o
    have k11 := fun o => keep_alloc x11 o
    go_wp2_with fail
    refine HFi.out.mono ?_
    rintro e w5 ⟨rfl, hb5, hok⟩
    rw [Hw4.out] at hb5
    have Hb5 := Lib.hid (Hbw4.out.trans (hb5.mono Hsz3.out))
    have Hok := Lib.hid hok
    clear hb5 hok
    generalize filE d.p = F at Hok He ⊢
    clear k0 k1 k2 k3 k4 k5 k6 k7 k8 k9 k10 k11 x0 x1 x2 x3 x4 x5 x6 x7 x8 x9 x10 x11
    by_cases hF : F = 0
    · obtain ⟨A', cap', Bc5, hb51, hb52, hbo⟩ := Hok.out hF
      have HBo := Lib.hid hbo
      clear hbo
      subst hF
      obtain ⟨T, hT⟩ : ∃ T : Tb, T = ⟨id, d.p.tb, (((colP d.p.cols d.p.key).getD 0 : Nat) : Int), (d.p.cols.length : Int), A', cap', numd d.p.cols⟩ := ⟨_, rfl⟩
      rw [← hT] at HBo
      have HTp : Hid (T.p = madeT d.p id) := by show _ = _; rw [hT]; rfl
      clear hT Hok
      have Hbx5 : Hid (w5.heap[bx]? = some (.cells #[.slice A l.length cap] 37 (0, 0))) := (Hb5.out.block bx hbxw).trans Hbx.out
      have HO5 := Lib.hid (HO.out.below Hb5.out)
      have HA5 := Lib.hid (HO5.out.at)
      have Hcnt := Lib.hid (Nat.le_trans List.countP_le_length (Nat.le_refl l.length) : l.countP (fun t : Tb => decide (t.id < id)) ≤ l.length)
      have HnI := Lib.hid (HnId.out trivial)
      have Hins : Hid ((l.take (l.countP fun t => decide (t.id < id)) ++ T :: l.drop (l.countP fun t => decide (t.id < id))).map Tb.p = insT (madeT d.p id) (l.map Tb.p)) := by
        show _ = _
        rw [← ins_count Hsr.out (fun x hx => HnI.out x hx), List.map_append, List.map_cons, List.map_take, List.map_drop, HTp.out, countP_p]
        rfl
      have HBf := Lib.hid (fun X (hX : Below w5.heap.size w5 X) => before_any A cap l id X (HA5.out.to hX) (by omega))
      generalize l.countP (fun t : Tb => decide (t.id < id)) = i at Hcnt Hins HBf
      have HIn : Hid (∀ X vb, Below w5.heap.size w5 X → X.heap[vb]? = some (.cells (fT T).toArray 45 (0, 0)) → w5.heap.size ≤ vb →
          Calls Tryz.prog 72 #[.slice A l.length cap, .int .i64 (i : Int), .slice (some ⟨vb, 0, none⟩) 1 1] X fun e w6 => ∃ A6 cap6, e = .returned (.slice A6 (l.length + 1) cap6) ∧
            OwnTb w6 B (.slice A6 (l.length + 1) cap6) (l.take i ++ T :: l.drop i) ∧ Off (fun x => (Value.slice A l.length cap).ownBlock = some x) w5 w6 ∧ l.length + 1 ≤ cap6) := fun X vb hX hv hvb => by
        refine (tins_any (.slice A l.length cap) i vb l T X B (HO5.out.row.below hX) Hcnt.out (by omega) ?_ (fun e => ?_) hv).mono ?_
        · have h2 := hX.size
          have h3 := Hb5.out.size
          omega
        · have := (HO5.out.row.lt vb e).2; omega
        · rintro e w6 ⟨v', rfl, h1, h2⟩
          obtain ⟨A6, cap6, rfl, h3, _, _⟩ := h1.form
          have hle : (l.take i ++ T :: l.drop i).length = l.length + 1 := by simp; have := Hcnt.out; omega
          rw [hle] at h1 h3 ⊢
          exact ⟨A6, cap6, rfl, h1, Off.behind hX h2, h3⟩
      obtain ⟨e0, e1, e2, e3, e4⟩ := HBo.out.cells
      have c0 : w5.cell? ⟨bx, 0, none⟩ = some (.slice A l.length cap) := by rw [cell_of_row w5 bx 0 _ _ (0, 0) Hbx5.out]; rfl
      have k0 := fun o => keep_alloc c0 o
      have Hc5 := Lib.hid c0
      have Hbc : Hid (∀ X, Below w5.heap.size w5 X → X.cell? ⟨bx, 0, none⟩ = some (.slice A l.length cap) ∧ X.cell? ⟨w3.heap.size, 0, none⟩ = some (.int .i64 T.id) ∧ X.cell? ⟨w3.heap.size, 1, none⟩ = some (.string T.nm) ∧ X.cell? ⟨w3.heap.size, 2, none⟩ = some (.int .i64 T.key) ∧ X.cell? ⟨w3.heap.size, 3, none⟩ = some (.int .i64 T.nx) ∧ X.cell? ⟨w3.heap.size, 4, none⟩ = some (.slice T.A T.cols.length T.cap)) := fun X hX => by
        obtain ⟨f0, f1, f2, f3, f4⟩ := (HBo.out.below hX).cells
        exact ⟨(hX.cell (p := ⟨bx, 0, none⟩) (World.block_lt_of_cell? w5 _ Hc5.out)).trans Hc5.out, f0, f1, f2, f3, f4⟩
      have Hend : Hid (∀ A6 cap6 w6, OwnTb w6 B (.slice A6 (l.length + 1) cap6) (l.take i ++ T :: l.drop i) → Off (fun x => (Value.slice A l.length cap).ownBlock = some x) w5 w6 → l.length + 1 ≤ cap6 →
          w6.cell? ⟨bx, 0, none⟩ = some (.slice A l.length cap) ∧ w6.frozen? ⟨bx, 0, none⟩ = false ∧ Off (fun x => InCat (.slice A l.length cap) l x ∨ x = bx) w (w6.setCell ⟨bx, 0, none⟩ (.slice A6 (l.length + 1) cap6)) ∧
          ∃ A' cap' l', (w6.setCell ⟨bx, 0, none⟩ (.slice A6 (l.length + 1) cap6)).cell? ⟨bx, 0, none⟩ = some (.slice A' l'.length cap') ∧ CatAt (w6.setCell ⟨bx, 0, none⟩ (.slice A6 (l.length + 1) cap6)) A' cap' l' ∧ l'.map Tb.p = insT (madeT d.p id) (l.map Tb.p)) := fun A6 cap6 w6 h1 h2 h3 => by
        have hnb : (Value.slice A l.length cap).ownBlock ≠ some bx := fun e => Hbn.out (.inl e)
        have hbw5 : bx < w5.heap.size := Nat.lt_of_lt_of_le hbxw Hb5.out.size
        have hb6 : w6.heap[bx]? = some (.cells #[.slice A l.length cap] 37 (0, 0)) := (h2.block bx hbw5 hnb).trans Hbx5.out
        have hc6 : w6.cell? ⟨bx, 0, none⟩ = some (.slice A l.length cap) := by rw [cell_of_row w6 bx 0 _ _ (0, 0) hb6]; rfl
        have hne6 := own_ne h1 hb6
        have hle : (l.take i ++ T :: l.drop i).length = l.length + 1 := by simp; have := Hcnt.out; omega
        have hof := Off.set w6 bx 0 (.slice A6 (l.length + 1) cap6)
        refine ⟨hc6, frozen_of_row w6 bx 0 _ _ hb6, ?_, A6, cap6, l.take i ++ T :: l.drop i, ?_, ⟨⟨?_, ?_⟩, by omega, ?_⟩, Hins.out⟩
        · exact (Off.behind Hb5.out (h2.mono fun x _ e => .inl (.inl e))).trans (hof.mono fun x _ e => .inr e)
        · rw [hle]; exact World.cell?_setCell_same _ _ _ hc6
        · exact (OwnR.off h1 hof (fun x hx e => hne6 (by rw [hx, e]))).at lenT
        · intro t ht
          rcases List.mem_append.1 ht with hm | hm
          · have htl := List.mem_of_mem_take hm
            refine (OwnR.off (OwnR.off (HO5.out.cols t htl) h2 fun x hx e => ?_) hof fun x hx e => ?_).at lenC
            · have := ((HO5.out.cols t htl).lt x hx).1
              have := HO5.out.ahead x e
              omega
            · exact Hbn.out (.inr ⟨t, htl, hx.trans (congrArg some e)⟩)
          · rcases List.mem_cons.1 hm with rfl | hm
            · refine (OwnR.off (OwnR.off HBo.out.2 h2 fun x hx e => ?_) hof fun x hx e => ?_).at lenC
              · have := (HBo.out.2.lt x hx).1
                have := (HO.out.row.lt x e).2
                have := Hsz3.out
                omega
              · have := (HBo.out.2.lt x hx).1
                have := Hsz3.out
                omega
            · have htl := List.mem_of_mem_drop hm
              refine (OwnR.off (OwnR.off (HO5.out.cols t htl) h2 fun x hx e => ?_) hof fun x hx e => ?_).at lenC
              · have := ((HO5.out.cols t htl).lt x hx).1
                have := HO5.out.ahead x e
                omega
              · exact Hbn.out (.inr ⟨t, htl, hx.trans (congrArg some e)⟩)
        · intro t ht
          have fits : ∀ {W : World} {b : Nat} {u : Tb}, OwnC W b (.slice u.A u.cols.length u.cap) u.cols → u.cols.length ≤ u.cap := fun {W b u} h => by
            obtain ⟨A9, cap9, e, h9, _⟩ := h.form
            injection e with _ _ e3
            omega
          rcases List.mem_append.1 ht with hm | hm
          · exact fits (HO5.out.cols t (List.mem_of_mem_take hm))
          · rcases List.mem_cons.1 hm with rfl | hm
            · exact fits HBo.out.2
            · exact fits (HO5.out.cols t (List.mem_of_mem_drop hm))
      clear HBo HTp HO5 HA5 Hcnt HnI Hins Hbx5 HFi Hw4 Hs4 Hbw4 Hsz3 HX3 Hb3 Hbw3 HX2 HI2 Hb2 HAd Hv HnId Hlm HI HH HN HWc Hsr Hbn Hbx0 Hbx HX Hs0 HT HD0 HA0 HO Hb0 Hw0 Hc5
      have m0 := fun o => keep_alloc e0 o
      have m1 := fun o => keep_alloc e1 o
      have m2 := fun o => keep_alloc e2 o
      have m3 := fun o => keep_alloc e3 o
      have m4 := fun o => keep_alloc e4 o
      go_wp2_with fail
      go_region_with (first
        | (go_at_call 73; refine (HBf.out _ (by go_grown)).mono ?_; rintro e w6 ⟨rfl, hb6⟩; have Hv6 := Lib.hid (fun o (ho : _ = some o) => (hb6.block w5.heap.size (Array.getElem?_eq_some_iff.1 ho).1).trans ho); have Hb6 := Lib.hid (show Below w5.heap.size w5 w6 from bthen (by go_grown) hb6); clear hb6; obtain ⟨g0, g1, g2, g3, g4, g5⟩ := Hbc.out w6 Hb6.out; have n0 := fun o => keep_alloc g0 o)
        | (go_at_call 72; with_reducible change Calls Tryz.prog _ #[_, _, .slice (some ⟨w6.heap.size, 0, none⟩) 1 1] (World.alloc w6 _) _; have hq1 := HIn.out (w6.alloc (.cells #[.int .i64 T.id, .string T.nm, .int .i64 T.key, .int .i64 T.nx, .slice T.A T.cols.length T.cap] 45)) w6.heap.size (bthen Hb6.out (below_one w6 _)); have hq2 := hq1 (heap_alloc_new w6 _) Hb6.out.size; clear hq1; refine hq2.mono ?_; clear hq2; rintro e w7 ⟨A6, cap6, rfl, h1, h2, h3⟩; have HE := Lib.hid (Hend.out A6 cap6 w7 h1 h2 h3); clear h1 h2 h3; have z0 := HE.out.1; have z1 := HE.out.2.1)
        | (go_at_call 72; have hq1 := HIn.out w6 w5.heap.size Hb6.out; have hq2 := hq1 (Hv6.out _ (heap_alloc_new w5 (.cells #[.int .i64 T.id, .string T.nm, .int .i64 T.key, .int .i64 T.nx, .slice T.A T.cols.length T.cap] 45))) (Nat.le_refl _); clear hq1; refine hq2.mono ?_; clear hq2; rintro e w7 ⟨A6, cap6, rfl, h1, h2, h3⟩; have HE := Lib.hid (Hend.out A6 cap6 w7 h1 h2 h3); clear h1 h2 h3; have z0 := HE.out.1; have z1 := HE.out.2.1)
        | fail)
      all_goals
        go_wp2_with fail
        go_ret
        exact ⟨by rw [He.out]; rfl, HE.out.2.2.1, fun _ => HE.out.2.2.2⟩
    · have HF := Lib.hid hF
      have hz0 : (F == 0) = false := by simpa using hF
      have hz1 : (F != 0) = true := by rw [bne, hz0]; rfl
      clear hF
      go_wp2_with fail
      go_ret
      exact ⟨by rw [He.out]; rfl, .of_below Hb5.out, fun h => absurd (He.out.symm.trans h) HF.out⟩
end Go.Proofs.YtlbdbaafmdikcaaGreatDoor

/-
  Contracts of package ddl's changes of a column: preset, widen, call, cut.
-/
namespace Go.Proofs.YtlbdbaafmdikcaaGreatDoor
open Go.RowKit

theorem box_v (w : World) (k n : Int) (s : ByteArray) : ∃ w0, w.alloc (.cells #[.int .i64 k, .int .i64 n, .string s] 25) = w0 ∧ Below w.heap.size w w0 ∧ w0.heap.size = w.heap.size + 1 ∧
    BlkN w0 w.heap.size [.int .i64 k, .int .i64 n, .string s] :=
  ⟨_, rfl, below_one w _, by simp, BlkN.new w _ [.int .i64 k, .int .i64 n, .string s] _ rfl⟩
theorem box_t (w : World) (k m : Int) : ∃ w0, w.alloc (.cells #[.int .i64 k, .int .i64 m] 23) = w0 ∧ Below w.heap.size w w0 ∧ w0.heap.size = w.heap.size + 1 ∧
    BlkN w0 w.heap.size [.int .i64 k, .int .i64 m] :=
  ⟨_, rfl, below_one w _, by simp, BlkN.new w _ [.int .i64 k, .int .i64 m] _ rfl⟩
theorem BlkN.v3 {w : World} {b : Nat} {x y z : Value} (h : BlkN w b [x, y, z]) : w.cell? ⟨b, 0, none⟩ = some x ∧ w.cell? ⟨b, 1, none⟩ = some y ∧ w.cell? ⟨b, 2, none⟩ = some z := ⟨h 0 _ rfl, h 1 _ rfl, h 2 _ rfl⟩
theorem BlkN.v2 {w : World} {b : Nat} {x y : Value} (h : BlkN w b [x, y]) : w.cell? ⟨b, 0, none⟩ = some x ∧ w.cell? ⟨b, 1, none⟩ = some y := ⟨h 0 _ rfl, h 1 _ rfl⟩
/-- a Default stored in its place -/
theorem OwnR.setD {w : World} {B g cap j : Nat} {l : List Cb} {c : Cb} (h : OwnC w B (.slice (some ⟨g, 0, none⟩) l.length cap) l) (hj : l[j]? = some c) (k n : Int) (s : ByteArray) :
    OwnC (((w.setCell ⟨g, j * 8 + 5, none⟩ (.int .i64 k)).setCell ⟨g, j * 8 + 6, none⟩ (.int .i64 n)).setCell ⟨g, j * 8 + 7, none⟩ (.string s)) B (.slice (some ⟨g, 0, none⟩) l.length cap) (l.set j { c with dk := k, dn := n, ds := s }) := by
  have hl := (List.getElem?_eq_some_iff.1 hj).1
  have h1 := h.set1 lenC (k := j) (i := 5) (x := c) (y := { c with dk := k }) (u := .int .i64 k) hj (by omega) rfl
  rw [show l.length = (l.set j { c with dk := k }).length by simp] at h1
  have h2 := h1.set1 lenC (k := j) (i := 6) (x := { c with dk := k }) (y := { c with dk := k, dn := n }) (u := .int .i64 n) (List.getElem?_set_self hl) (by omega) rfl
  rw [List.set_set, List.length_set] at h2
  rw [show l.length = (l.set j { c with dk := k, dn := n }).length by simp] at h2
  have h3 := h2.set1 lenC (k := j) (i := 7) (x := { c with dk := k, dn := n }) (y := { c with dk := k, dn := n, ds := s }) (u := .string s) (List.getElem?_set_self hl) (by omega) rfl
  rw [List.set_set, List.length_set] at h3
  exact h3
theorem OwnR.setT {w : World} {B g cap j : Nat} {l : List Cb} {c : Cb} (h : OwnC w B (.slice (some ⟨g, 0, none⟩) l.length cap) l) (hj : l[j]? = some c) (k m : Int) :
    OwnC ((w.setCell ⟨g, j * 8 + 2, none⟩ (.int .i64 k)).setCell ⟨g, j * 8 + 3, none⟩ (.int .i64 m)) B (.slice (some ⟨g, 0, none⟩) l.length cap) (l.set j { c with tk := k, tm := m }) := by
  have hl := (List.getElem?_eq_some_iff.1 hj).1
  have h1 := h.set1 lenC (k := j) (i := 2) (x := c) (y := { c with tk := k }) (u := .int .i64 k) hj (by omega) rfl
  rw [show l.length = (l.set j { c with tk := k }).length by simp] at h1
  have h2 := h1.set1 lenC (k := j) (i := 3) (x := { c with tk := k }) (y := { c with tk := k, tm := m }) (u := .int .i64 m) (List.getElem?_set_self hl) (by omega) rfl
  rw [List.set_set, List.length_set] at h2
  exact h2
theorem off_set3 (w : World) (g a b c : Nat) (x y z : Value) : Off (fun k => k = g) w (((w.setCell ⟨g, a, none⟩ x).setCell ⟨g, b, none⟩ y).setCell ⟨g, c, none⟩ z) := ((Off.set w g a x).trans (Off.set _ g b y)).trans (Off.set _ g c z)
def presE (c : Cb) (k n : Int) (s : ByteArray) : Int := if presetD c.tk c.tm k n s = true then 0 else 10
def widE (c : Cb) (tk tm : Int) : Int := if rightT tk tm = true then (if wideT tk tm c.tk c.tm = true then 0 else 16) else 9
set_option maxRecDepth 100000 in
set_option maxHeartbeats 4000000 in
theorem preset_any (g cap j : Nat) (l : List Cb) (c : Cb) (k n : Int) (s : ByteArray) (w : World) (B : Nat) (ht : UTab w) (hO : OwnC w B (.slice (some ⟨g, 0, none⟩) l.length cap) l) (hj : l[j]? = some c) :
    Calls Tryz.prog 81 #[.pointer (some ⟨g, j * 8, none⟩), VV k n s] w fun e w' => e = .returned (.int .i64 (presE c k n s)) ∧ (presE c k n s ≠ 0 → Below w.heap.size w w') ∧
      (presE c k n s = 0 → Off (fun x => x = g) w w' ∧ OwnC w' B (.slice (some ⟨g, 0, none⟩) l.length cap) (l.set j { c with dk := k, dn := n, ds := s })) := by
  obtain ⟨w0, hw0, hb0, hs0, hX⟩ := box_v w k n s
  have Hw0 := Lib.hid hw0; clear hw0
  have Hb0 := Lib.hid hb0
  have HO0 := Lib.hid (hO.below hb0); clear hO
  have HT := Lib.hid (ht.below hb0 (Nat.le_refl _)); clear ht hb0
  have HX := Lib.hid hX
  have Hs0 := Lib.hid hs0; clear hs0
  have Hj := Lib.hid hj; clear hj
  have HF := Lib.hid (fun w ht => rdef_any c.tk c.tm k n s w ht)
  have HTd : Hid (UTab w0.drew) := HT.out.drew
  obtain ⟨x0, x1, x2⟩ := hX.v3
  clear hX
  obtain ⟨d0, d1, d2, d3, d4, d5, d6, d7⟩ := col_cells HO0.out rfl Hj.out
  have Hv : Hid (presE c k n s = if presetD c.tk c.tm k n s = true then 0 else 10) := rfl
  generalize presE c k n s = E at Hv ⊢
  generalize presetD c.tk c.tm k n s = b at HF Hv
  cases b
  · have He : Hid (E = 10) := Hv.out
    go_enter Tryz.func81, Tryz.ntmps81
    go_wp2_with fail
    rw [Hw0.out]
    go_region_with (first
      | (go_at_call 108; refine (HF.out _ HTd.out).mono ?_; rintro e w2 ⟨rfl, hb2⟩; have Hb2 := Lib.hid ((Below.refl w0.heap.size w0).drew.trans hb2); clear hb2)
      | fail)
    all_goals
      have Hb3 := Lib.hid (bthen Hb0.out Hb2.out)
      go_wp2_with fail
      go_ret
      exact ⟨by rw [He.out]; rfl, fun _ => Hb3.out, fun h => by rw [He.out] at h; cases h⟩
  · have He : Hid (E = 0) := Hv.out
    go_enter Tryz.func81, Tryz.ntmps81
    go_wp2_with fail
    rw [Hw0.out]
    go_region_with (first
      | (go_at_call 108; refine (HF.out _ HTd.out).mono ?_; rintro e w2 ⟨rfl, hb2⟩; have Hb2 := Lib.hid ((Below.refl w0.heap.size w0).drew.trans hb2); clear hb2)
      | fail)
    all_goals
      clear x0 x1 x2 d0 d1 d2 d3 d4 d5 d6 d7
      have Hb3 := Lib.hid (bthen Hb0.out Hb2.out)
      have HO2 := Lib.hid (HO0.out.below Hb2.out)
      obtain ⟨x0, x1, x2⟩ := (HX.out.below Hb2.out (by have := Hs0.out; omega)).v3
      obtain ⟨d0, d1, d2, d3, d4, d5, d6, d7⟩ := col_cells HO2.out rfl Hj.out
      have f5 := HO2.out.frozen (j * 8 + 5)
      have f6 := HO2.out.frozen (j * 8 + 6)
      have f7 := HO2.out.frozen (j * 8 + 7)
      have HE := Lib.hid (HO2.out.setD Hj.out k n s)
      have HoE := Lib.hid (Off.behind Hb3.out (off_set3 w2 g (j * 8 + 5) (j * 8 + 6) (j * 8 + 7) (.int .i64 k) (.int .i64 n) (.string s)))
      go_wp2_with fail
      go_ret
      exact ⟨by rw [He.out]; rfl, fun h => absurd He.out h, fun _ => ⟨HoE.out, HE.out⟩⟩
theorem cast_ok {c : Cb} {tk tm : Int} (hc : presetD c.tk c.tm c.dk c.dn c.ds = true) (hw : wideT tk tm c.tk c.tm = true) (h1 : -9223372036854775808 ≤ c.dn) (h2 : c.dn < 9223372036854775808) :
    castR c.dk c.dn c.ds tk tm = .tuple #[VV (castC tk tm c).dk (castC tk tm c).dn (castC tk tm c).ds, .int .i64 0] ∧ (castC tk tm c) = { c with tk := tk, tm := tm, dk := (castC tk tm c).dk, dn := (castC tk tm c).dn, ds := (castC tk tm c).ds } := by
  have hr : rightT tk tm = true := by unfold wideT at hw; simp only [Bool.and_eq_true] at hw; exact hw.1.1.1
  unfold castC
  by_cases hn : nulV c.dk c.dn c.ds = true
  · rw [if_pos hn]
    refine ⟨?_, rfl⟩
    have hn' := hn
    unfold nulV at hn'
    rw [Bool.and_eq_true, Bool.and_eq_true] at hn'
    obtain ⟨e1, e2, e3⟩ := hn'
    rw [beq_iff_eq] at e1 e2
    rw [e1, e2, eqS_iff.1 e3]
    unfold castR
    rw [show rightV 0 0 (bs ByteArray.empty) = true by unfold rightV; rfl, hr]
    rfl
  · rw [if_neg hn]
    refine ⟨?_, rfl⟩
    unfold presetD at hc
    simp only [Bool.or_eq_true] at hc
    rcases hc with h | h
    · exact absurd h hn
    · exact (widen hw h h1 h2).1
theorem boxA {w2 w3 : World} (h : Below w2.heap.size w2 w3) {a' b' c' : Value} (y0 : w3.cell? ⟨w2.heap.size, 0, none⟩ = some a') (y1 : w3.cell? ⟨w2.heap.size, 1, none⟩ = some b') (y2 : w3.cell? ⟨w2.heap.size, 2, none⟩ = some c') (a b c : Value) :
    ∃ W, ((w3.setCell ⟨w2.heap.size, 0, none⟩ a).setCell ⟨w2.heap.size, 1, none⟩ b).setCell ⟨w2.heap.size, 2, none⟩ c = W ∧ Below w2.heap.size w2 W ∧ W.cell? ⟨w2.heap.size, 0, none⟩ = some a ∧ W.cell? ⟨w2.heap.size, 1, none⟩ = some b ∧ W.cell? ⟨w2.heap.size, 2, none⟩ = some c := by
  have n01 : (⟨w2.heap.size, 0, none⟩ : Addr) ≠ ⟨w2.heap.size, 1, none⟩ := by simp
  have n02 : (⟨w2.heap.size, 0, none⟩ : Addr) ≠ ⟨w2.heap.size, 2, none⟩ := by simp
  have n12 : (⟨w2.heap.size, 1, none⟩ : Addr) ≠ ⟨w2.heap.size, 2, none⟩ := by simp
  refine ⟨_, rfl, bput (bput (bput h (Nat.le_refl _) 0 a) (Nat.le_refl _) 1 b) (Nat.le_refl _) 2 c, ?_, ?_, ?_⟩
  · rw [World.cell?_setCell_other _ _ _ _ n02.symm, World.cell?_setCell_other _ _ _ _ n01.symm, World.cell?_setCell_same _ _ _ y0]
  · rw [World.cell?_setCell_other _ _ _ _ n12.symm, World.cell?_setCell_same _ _ _ (by rw [World.cell?_setCell_other _ _ _ _ n01]; exact y1)]
  · rw [World.cell?_setCell_same _ _ _ (by rw [World.cell?_setCell_other _ _ _ _ n12, World.cell?_setCell_other _ _ _ _ n02]; exact y2)]
theorem boxB {w2 w3 : World} (h : Below w2.heap.size w2 w3) (a b c : Value) :
    ∃ W, w3.alloc (.cells #[a, b, c] 25) = W ∧ Below w2.heap.size w2 W ∧ W.cell? ⟨w3.heap.size, 0, none⟩ = some a ∧ W.cell? ⟨w3.heap.size, 1, none⟩ = some b ∧ W.cell? ⟨w3.heap.size, 2, none⟩ = some c :=
  ⟨_, rfl, bthen h (below_one w3 _), by simp, by simp, by simp⟩
set_option maxRecDepth 100000 in
set_option maxHeartbeats 8000000 in
theorem widen_any (g cap j : Nat) (l : List Cb) (c : Cb) (tk tm : Int) (w : World) (B : Nat) (ht : UTab w) (hO : OwnC w B (.slice (some ⟨g, 0, none⟩) l.length cap) l) (hj : l[j]? = some c)
    (hc : presetD c.tk c.tm c.dk c.dn c.ds = true) (h1 : -9223372036854775808 ≤ c.dn) (h2 : c.dn < 9223372036854775808) :
    Calls Tryz.prog 80 #[.pointer (some ⟨g, j * 8, none⟩), TT tk tm] w fun e w' => e = .returned (.int .i64 (widE c tk tm)) ∧ (widE c tk tm ≠ 0 → Below w.heap.size w w') ∧
      (widE c tk tm = 0 → Off (fun x => x = g) w w' ∧ OwnC w' B (.slice (some ⟨g, 0, none⟩) l.length cap) (l.set j (castC tk tm c))) := by
  obtain ⟨w0, hw0, hb0, hs0, hX⟩ := box_t w tk tm
  have Hw0 := Lib.hid hw0; clear hw0
  have Hb0 := Lib.hid hb0
  have Hgw := Lib.hid (show g < w.heap.size from (hO.lt g rfl).2)
  have HO0 := Lib.hid (hO.below hb0); clear hO
  have HT := Lib.hid (ht.below hb0 (Nat.le_refl _)); clear ht hb0
  have HX := Lib.hid hX
  have Hs0 := Lib.hid hs0; clear hs0
  have Hj := Lib.hid hj; clear hj
  have HR := Lib.hid (tright_any tk tm w0)
  rw [← Hw0.out] at HR
  have HWi := Lib.hid (fun w => twide_any tk tm c.tk c.tm w)
  have HC := Lib.hid (fun w ht => tcast_any c.dk c.dn c.ds tk tm w ht h1 h2)
  have HK := Lib.hid (fun hw => cast_ok (tk := tk) (tm := tm) hc hw h1 h2)
  clear hc h1 h2
  obtain ⟨x0, x1⟩ := hX.v2
  clear hX
  have Hv : Hid (widE c tk tm = if rightT tk tm = true then (if wideT tk tm c.tk c.tm = true then 0 else 16) else 9) := rfl
  generalize widE c tk tm = E at Hv ⊢
  generalize rightT tk tm = b at HR Hv
  cases b
  · have He : Hid (E = 9) := Hv.out
    go_enter Tryz.func80, Tryz.ntmps80
    go_wp2_with fail
    refine HR.out.mono ?_
    rintro e w1 ⟨rfl, hb1⟩
    rw [Hw0.out] at hb1
    have Hb1 := Lib.hid (bthen Hb0.out hb1); clear hb1
    go_wp2_with fail
    go_ret
    exact ⟨by rw [He.out]; rfl, fun _ => Hb1.out, fun h => by rw [He.out] at h; cases h⟩
  generalize wideT tk tm c.tk c.tm = b at HWi HK Hv
  cases b
  · have He : Hid (E = 16) := Hv.out
    go_enter Tryz.func80, Tryz.ntmps80
    go_wp2_with fail
    refine HR.out.mono ?_
    rintro e w1 ⟨rfl, hb1⟩
    rw [Hw0.out] at hb1
    have Hb1 := Lib.hid hb1; clear hb1
    clear x0 x1
    obtain ⟨x0, x1⟩ := (HX.out.below Hb1.out (by have := Hs0.out; omega)).v2
    obtain ⟨d0, d1, d2, d3, d4, d5, d6, d7⟩ := col_cells (HO0.out.below Hb1.out) rfl Hj.out
    go_wp2_with fail
    go_region_with (first
      | (go_at_call 112; refine (HWi.out _).mono ?_; rintro e w2 ⟨rfl, hb2⟩; have Hb2 := Lib.hid (bthen (bthen Hb0.out Hb1.out) ((Below.refl w1.heap.size w1).drew.trans hb2)); clear hb2)
      | fail)
    all_goals
      go_wp2_with fail
      go_ret
      exact ⟨by rw [He.out]; rfl, fun _ => Hb2.out, fun h => by rw [He.out] at h; cases h⟩
  · have He : Hid (E = 0) := Hv.out
    obtain ⟨K1, K2⟩ := HK.out rfl
    generalize (castC tk tm c).dk = ck at K1 K2
    generalize (castC tk tm c).dn = cn at K1 K2
    generalize (castC tk tm c).ds = cs at K1 K2
    rw [K2]
    rw [K1] at HC
    clear K1 K2 HK
    go_enter Tryz.func80, Tryz.ntmps80
    go_wp2_with fail
    refine HR.out.mono ?_
    rintro e w1 ⟨rfl, hb1⟩
    rw [Hw0.out] at hb1
    have Hb1 := Lib.hid hb1; clear hb1
    clear x0 x1
    obtain ⟨x0, x1⟩ := (HX.out.below Hb1.out (by have := Hs0.out; omega)).v2
    obtain ⟨d0, d1, d2, d3, d4, d5, d6, d7⟩ := col_cells (HO0.out.below Hb1.out) rfl Hj.out
    go_wp2_with fail
    go_region_with (first
      | (go_at_call 112; refine (HWi.out _).mono ?_; rintro e w2 ⟨rfl, hb2⟩; have Hb2 := Lib.hid (bthen Hb1.out ((Below.refl w1.heap.size w1).drew.trans hb2)); clear hb2)
      | fail)
    all_goals
      clear x0 x1 d0 d1 d2 d3 d4 d5 d6 d7
      have HX2 := Lib.hid (HX.out.below Hb2.out (by have := Hs0.out; omega))
      have HO2 := Lib.hid (HO0.out.below Hb2.out)
      have HT2 : Hid (UTab w2.drew) := (HT.out.below Hb2.out (Nat.le_refl _)).drew
      obtain ⟨x0, x1⟩ := HX2.out.v2
      obtain ⟨d0, d1, d2, d3, d4, d5, d6, d7⟩ := col_cells HO2.out rfl Hj.out
      have k0 := fun o => keep_alloc x0 o
      have k1 := fun o => keep_alloc x1 o
      have k5 := fun o => keep_alloc d5 o
      have k6 := fun o => keep_alloc d6 o
      have k7 := fun o => keep_alloc d7 o
      have Hs2 : Hid (w.heap.size < w2.heap.size) := by show _ < _; have := Hs0.out; have := Hb2.out.size; omega
      go_wp2_with fail
      have HTX : Hid (∀ X, Below w2.heap.size w2 X → UTab X) := fun X hX => (HT.out.below Hb2.out (Nat.le_refl _)).below hX (Nat.le_refl _)
      go_region_with (first
        | (go_at_call 113; with_reducible change Calls Tryz.prog 113 _ (World.drew (World.alloc w2 _)) _; refine (HC.out _ (HTX.out _ (by go_grown))).mono ?_; rintro e w3 ⟨rfl, hb3⟩; have y0 : w3.cell? ⟨w2.heap.size, 0, none⟩ = some (.int .i64 0) := ((hb3.cell (p := ⟨w2.heap.size, 0, none⟩) (by simp)).trans (by simp)); have y1 : w3.cell? ⟨w2.heap.size, 1, none⟩ = some (.int .i64 0) := ((hb3.cell (p := ⟨w2.heap.size, 1, none⟩) (by simp)).trans (by simp)); have y2 : w3.cell? ⟨w2.heap.size, 2, none⟩ = some (.string ⟨#[]⟩) := ((hb3.cell (p := ⟨w2.heap.size, 2, none⟩) (by simp)).trans (by simp)); have g0 : w3.frozen? ⟨w2.heap.size, 0, none⟩ = false := ((hb3.frozen (p := ⟨w2.heap.size, 0, none⟩) (by simp)).trans (by simp)); have g1 : w3.frozen? ⟨w2.heap.size, 1, none⟩ = false := ((hb3.frozen (p := ⟨w2.heap.size, 1, none⟩) (by simp)).trans (by simp)); have g2 : w3.frozen? ⟨w2.heap.size, 2, none⟩ = false := ((hb3.frozen (p := ⟨w2.heap.size, 2, none⟩) (by simp)).trans (by simp)); have Hb3 := Lib.hid (show Below w2.heap.size w2 w3 from bthen (by go_grown) hb3); clear hb3)
        | (go_at_call 113; refine (HC.out _ (HTX.out _ (by go_grown))).mono ?_; rintro e w3 ⟨rfl, hb3⟩; have Hb3 := Lib.hid (show Below w2.heap.size w2 w3 from bthen (by go_grown) hb3); clear hb3)
        | fail)
      all_goals
        clear x0 x1 d0 d1 d2 d3 d4 d5 d6 d7 k0 k1 k5 k6 k7
        first
          | (obtain ⟨W, hW, hbW, v0, v1, v2⟩ := boxA Hb3.out y0 y1 y2 (.int .i64 ck) (.int .i64 cn) (.string cs); have HW := Lib.hid hW; clear hW; clear y0 y1 y2 g0 g1 g2)
          | (obtain ⟨W, hW, hbW, v0, v1, v2⟩ := boxB Hb3.out (.int .i64 ck) (.int .i64 cn) (.string cs); have HW := Lib.hid hW; clear hW)
        have HbW := Lib.hid hbW; clear hbW
        go_wp2_with fail
        rw [HW.out]
        obtain ⟨x0, x1⟩ := (HX2.out.below HbW.out Hs2.out).v2
        have HOW := Lib.hid (HO2.out.below HbW.out)
        obtain ⟨d0, d1, d2, d3, d4, d5, d6, d7⟩ := col_cells HOW.out rfl Hj.out
        have f2 := HOW.out.frozen (j * 8 + 2)
        have f3 := HOW.out.frozen (j * 8 + 3)
        have f5 := HOW.out.frozen (j * 8 + 5)
        have f6 := HOW.out.frozen (j * 8 + 6)
        have f7 := HOW.out.frozen (j * 8 + 7)
        have HbE := Lib.hid (bthen (bthen Hb0.out Hb2.out) HbW.out)
        have hn1 : w.heap.size ≠ g := by have := Hgw.out; omega
        have hn2 : w2.heap.size ≠ g := by have := Hgw.out; have := Hs2.out; omega
        have hn3 : w3.heap.size ≠ g := by have := Hgw.out; have := Hs2.out; have := Hb3.out.size; omega
        have hn1' : g ≠ w.heap.size := fun e => hn1 e.symm
        have hn2' : g ≠ w2.heap.size := fun e => hn2 e.symm
        have hn3' : g ≠ w3.heap.size := fun e => hn3 e.symm
        have HE : Hid (OwnC (((((W.setCell ⟨g, j * 8 + 2, none⟩ (.int .i64 tk)).setCell ⟨g, j * 8 + 2 + 1, none⟩ (.int .i64 tm)).setCell ⟨g, j * 8 + 5, none⟩ (.int .i64 ck)).setCell ⟨g, j * 8 + 5 + 1, none⟩ (.int .i64 cn)).setCell ⟨g, j * 8 + 5 + 2, none⟩ (.string cs)).drew B (.slice (some ⟨g, 0, none⟩) l.length cap) (l.set j { c with tk := tk, tm := tm, dk := ck, dn := cn, ds := cs })) := by
          have hjl := (List.getElem?_eq_some_iff.1 Hj.out).1
          have h1 := HOW.out.setT Hj.out tk tm
          rw [show l.length = (l.set j { c with tk := tk, tm := tm }).length by simp] at h1
          have h2 := h1.setD (List.getElem?_set_self hjl) ck cn cs
          rw [List.set_set, List.length_set] at h2
          exact World.ownsRow.drew h2
        have HoE : Hid (Off (fun x => x = g) w (((((W.setCell ⟨g, j * 8 + 2, none⟩ (.int .i64 tk)).setCell ⟨g, j * 8 + 2 + 1, none⟩ (.int .i64 tm)).setCell ⟨g, j * 8 + 5, none⟩ (.int .i64 ck)).setCell ⟨g, j * 8 + 5 + 1, none⟩ (.int .i64 cn)).setCell ⟨g, j * 8 + 5 + 2, none⟩ (.string cs)).drew) :=
          (((Off.behind HbE.out (Off.set W g (j * 8 + 2) (.int .i64 tk))).trans (Off.set _ g (j * 8 + 2 + 1) (.int .i64 tm))).trans (off_set3 _ g (j * 8 + 5) (j * 8 + 5 + 1) (j * 8 + 5 + 2) (.int .i64 ck) (.int .i64 cn) (.string cs))).trans (off_drew _)
        go_region
        all_goals
          go_wp2_with fail
          go_ret
          exact ⟨by rw [He.out]; rfl, fun h => absurd He.out h, fun _ => ⟨HoE.out, HE.out⟩⟩
end Go.Proofs.YtlbdbaafmdikcaaGreatDoor

/-
  Contracts of package ddl's call and cut.
-/
namespace Go.Proofs.YtlbdbaafmdikcaaGreatDoor
open Go.RowKit

/-- why a column may not be called otherwise -/
def callE (l : List Cb) (s : ByteArray) : Int := if rightN (bs s) = true then (if (colP l s).isSome = true then 14 else 0) else 8
set_option maxRecDepth 100000 in
set_option maxHeartbeats 4000000 in
theorem dcall_any (g cap k gc cc j : Nat) (l : List Tb) (t : Tb) (c : Cb) (s : ByteArray) (w : World) (B Bc : Nat) (hO : OwnTb w B (.slice (some ⟨g, 0, none⟩) l.length cap) l) (hk : l[k]? = some t)
    (hA : t.A = some ⟨gc, 0, none⟩) (hcc : t.cap = cc) (hC : OwnC w Bc (.slice (some ⟨gc, 0, none⟩) t.cols.length cc) t.cols) (hj : t.cols[j]? = some c) (hl : t.cols.length ≤ 1000000) (hs : s.size ≤ 1000000) :
    Calls Tryz.prog 79 #[.pointer (some ⟨g, k * 5, none⟩), .int .i64 (j : Int), .string s] w fun e w' => e = .returned (.int .i64 (callE t.cols s)) ∧ (callE t.cols s ≠ 0 → Below w.heap.size w w') ∧
      (callE t.cols s = 0 → Off (fun x => x = gc) w w' ∧ OwnC w' Bc (.slice (some ⟨gc, 0, none⟩) t.cols.length cc) (t.cols.set j { c with nm := s })) := by
  have HO := Lib.hid hO; clear hO
  have HC := Lib.hid hC
  have Hk := Lib.hid hk; clear hk
  have Hj := Lib.hid hj
  have hjl := (List.getElem?_eq_some_iff.1 hj).1
  clear hj
  have HN := Lib.hid (nright_any s w hs)
  have HAt : Hid (TabAt w w.heap.size t) := by
    show RowAt _ _ _ _ _ _
    rw [hA]; exact hC.at lenC
  have HH := Lib.hid (hascol_any t s w HAt.out hl)
  clear hC
  have Hv : Hid (callE t.cols s = if rightN (bs s) = true then (if (colI t s).isSome = true then 14 else 0) else 8) := rfl
  generalize callE t.cols s = E at Hv ⊢
  generalize rightN (bs s) = b1 at HN Hv
  generalize (colI t s).isSome = b2 at HH Hv
  obtain ⟨d0, d1, d2, d3, d4⟩ := tab_cells HO.out Hk.out
  rw [hA, hcc] at d4
  unfold TV at HH
  rw [hA, hcc] at HH
  cases b1
  · have He : Hid (E = 8) := Hv.out
    go_enter Tryz.func79, Tryz.ntmps79
    go_wp2_with fail
    refine HN.out.mono ?_
    rintro e w1 ⟨rfl, rfl⟩
    go_wp2_with fail
    go_ret
    exact ⟨by rw [He.out]; rfl, fun _ => Below.refl _ _, fun h => by rw [He.out] at h; cases h⟩
  cases b2
  case true =>
    have He : Hid (E = 14) := Hv.out
    go_enter Tryz.func79, Tryz.ntmps79
    go_wp2_with fail
    refine HN.out.mono ?_
    rintro e w1 ⟨rfl, rfl⟩
    go_wp2_with fail
    refine HH.out.mono ?_
    rintro e w2 ⟨rfl, hb2⟩
    have Hb2 := Lib.hid hb2; clear hb2
    go_wp2_with fail
    go_ret
    exact ⟨by rw [He.out]; rfl, fun _ => Hb2.out, fun h => by rw [He.out] at h; cases h⟩
  have He : Hid (E = 0) := Hv.out
  have hj0 : (0 : Int) ≤ (j : Int) := by omega
  have hjI : (j : Int) < (t.cols.length : Int) := by omega
  go_enter Tryz.func79, Tryz.ntmps79
  go_wp2_with fail
  refine HN.out.mono ?_
  rintro e w1 ⟨rfl, rfl⟩
  go_wp2_with fail
  refine HH.out.mono ?_
  rintro e w2 ⟨rfl, hb2⟩
  have Hb2 := Lib.hid hb2; clear hb2
  clear d0 d1 d2 d3 d4
  have HC2 := Lib.hid (HC.out.below Hb2.out)
  obtain ⟨_, _, _, _, d4⟩ := tab_cells (HO.out.below Hb2.out) Hk.out
  rw [hA, hcc] at d4
  obtain ⟨_, y1, _, _, _, _, _, _⟩ := col_cells HC2.out rfl Hj.out
  have f1 := HC2.out.frozen (j * 8 + 1)
  have HE := Lib.hid (HC2.out.set1 lenC (k := j) (i := 1) (x := c) (y := { c with nm := s }) (u := .string s) Hj.out (by omega) rfl)
  have HoE := Lib.hid (Off.behind Hb2.out (Off.set w2 gc (j * 8 + 1) (.string s)))
  go_wp2_with fail
  go_ret
  exact ⟨by rw [He.out]; rfl, fun h => absurd He.out h, fun _ => ⟨HoE.out, HE.out⟩⟩
/-- why a column may not be removed -/
def cutE (t : Tb) (c : Cb) : Int := if c.id = t.key then 15 else 0
set_option maxRecDepth 100000 in
set_option maxHeartbeats 4000000 in
theorem dcut_any (g cap k gc cc j : Nat) (l : List Tb) (t : Tb) (c : Cb) (w : World) (B Bc : Nat) (hO : OwnTb w B (.slice (some ⟨g, 0, none⟩) l.length cap) l) (hk : l[k]? = some t)
    (hA : t.A = some ⟨gc, 0, none⟩) (hcc : t.cap = cc) (hC : OwnC w Bc (.slice (some ⟨gc, 0, none⟩) t.cols.length cc) t.cols) (hj : t.cols[j]? = some c) (hl : t.cols.length ≤ 1000000) (hgc : g < gc) :
    Calls Tryz.prog 78 #[.pointer (some ⟨g, k * 5, none⟩), .int .i64 (j : Int)] w fun e w' => e = .returned (.int .i64 (cutE t c)) ∧ (cutE t c ≠ 0 → Below w.heap.size w w') ∧
      (cutE t c = 0 → Off (fun x => x = g ∨ x = gc) w w' ∧ OwnC w' Bc (.slice (some ⟨gc, 0, none⟩) (t.cols.length - 1) cc) (t.cols.eraseIdx j) ∧
        OwnTb w' B (.slice (some ⟨g, 0, none⟩) l.length cap) (l.set k { t with cols := t.cols.eraseIdx j })) := by
  have HO := Lib.hid hO; clear hO
  have HC := Lib.hid hC
  have Hk := Lib.hid hk; clear hk
  have Hj := Lib.hid hj
  have hjl := (List.getElem?_eq_some_iff.1 hj).1
  clear hj
  have Hlen : Hid ((t.cols.eraseIdx j).length = t.cols.length - 1) := by show _ = _; rw [List.length_eraseIdx, if_pos hjl]
  have HD := Lib.hid (fun w' hO' => cdel_any gc cc j t.cols w' Bc hO' hjl hl)
  clear hC
  obtain ⟨d0, d1, d2, d3, d4⟩ := tab_cells HO.out Hk.out
  rw [hA, hcc] at d4
  obtain ⟨y0, _, _, _, _, _, _, _⟩ := col_cells HC.out rfl Hj.out
  have hj0 : (0 : Int) ≤ (j : Int) := by omega
  have hjI : (j : Int) < (t.cols.length : Int) := by omega
  have hwj : IntKind.i64.wrap ((j : Int) + 1) = (j : Int) + 1 := by rw [IntKind.wrap_i64]; omega
  by_cases hid : c.id = t.key
  · have He : Hid (cutE t c = 15) := by show _ = _; unfold cutE; rw [if_pos hid]
    generalize cutE t c = E at He ⊢
    have hq : (c.id == t.key) = true := by simpa using hid
    clear hid
    go_enter Tryz.func78, Tryz.ntmps78
    go_wp2_with fail
    go_region
    all_goals
      have Hb : Hid (Below w.heap.size w w.drew) := (Below.refl _ _).drew
      go_wp2_with fail
      go_ret
      exact ⟨by rw [He.out]; rfl, fun _ => Hb.out, fun h => by rw [He.out] at h; cases h⟩
  · have He : Hid (cutE t c = 0) := by show _ = _; unfold cutE; rw [if_neg hid]
    generalize cutE t c = E at He ⊢
    have hq : (c.id == t.key) = false := by simpa using hid
    clear hid
    have Hd := Lib.hid (HD.out w.drew HC.out)
    go_enter Tryz.func78, Tryz.ntmps78
    go_wp2_with fail
    go_region
    all_goals
      go_wp2_with fail
      refine Hd.out.mono ?_
      rintro e w2 ⟨rfl, ho2, hf2⟩
      have Hf2 : Hid (Off (fun x => x = gc) w w2) := (off_drew w).trans hf2
      have HO2 := Lib.hid (HO.out.off Hf2.out (fun x hx e => by simp [Value.ownBlock] at hx; omega))
      have HC2 := Lib.hid ho2
      clear ho2 hf2
      clear d0 d1 d2 d3 d4 y0
      obtain ⟨_, _, _, _, d4⟩ := tab_cells HO2.out Hk.out
      have f4 := HO2.out.frozen (k * 5 + 4)
      have HE := Lib.hid (HO2.out.set1 lenT (k := k) (i := 4) (x := t) (y := { t with cols := t.cols.eraseIdx j }) (u := .slice (some ⟨gc, 0, none⟩) (t.cols.length - 1) cc) Hk.out (by omega) (by simp [fT, Hlen.out, hA, hcc]))
      have HCE := Lib.hid (OwnR.off HC2.out (Off.set w2 g (k * 5 + 4) (.slice (some ⟨gc, 0, none⟩) (t.cols.length - 1) cc)) (fun x hx e => by simp [Value.ownBlock] at hx; omega))
      have HoE : Hid (Off (fun x => x = g ∨ x = gc) w (w2.setCell ⟨g, k * 5 + 4, none⟩ (.slice (some ⟨gc, 0, none⟩) (t.cols.length - 1) cc))) :=
        (Hf2.out.mono fun x _ e => .inr e).trans ((Off.set w2 g (k * 5 + 4) _).mono fun x _ e => .inl e)
      go_wp2_with fail
      go_ret
      exact ⟨by rw [He.out]; rfl, fun h => absurd He.out h, fun _ => ⟨HoE.out, HCE.out, HE.out⟩⟩
end Go.Proofs.YtlbdbaafmdikcaaGreatDoor

/-
  Contract of package ddl's changeColumn.
-/
namespace Go.Proofs.YtlbdbaafmdikcaaGreatDoor
open Go.RowKit

theorem map_set {l : List Cb} (hp : l.Pairwise (Apart Cb.id Cb.nm)) {j : Nat} {c : Cb} (hj : l[j]? = some c) {s : ByteArray} (hs : c.nm = s) (f : Cb → Cb) : (l.map fun x => if eqS x.nm s = true then f x else x) = l.set j (f c) := by
  refine List.ext_getElem? fun i => ?_
  obtain ⟨hjl, hjc⟩ := List.getElem?_eq_some_iff.1 hj
  rw [List.getElem?_map, List.getElem?_set]
  by_cases h : j = i
  · subst h
    rw [if_pos rfl, if_pos hjl, hj]
    simp only [Option.map_some]
    rw [if_pos (eqS_iff.2 hs)]
  · rw [if_neg h]
    cases hx : l[i]? with
    | none => rfl
    | some x =>
      simp only [Option.map_some]
      obtain ⟨hil, hic⟩ := List.getElem?_eq_some_iff.1 hx
      rw [List.pairwise_iff_getElem] at hp
      have hne : x.nm ≠ s := fun e => by
        rcases Nat.lt_or_gt_of_ne h with h1 | h1
        · exact (hp j i hjl hil h1).2 (by rw [hjc, hic, hs, e])
        · exact (hp i j hil hjl h1).2 (by rw [hjc, hic, hs, e])
      rw [if_neg (fun e => hne (eqS_iff.1 e))]
theorem filter_erase : ∀ {l : List Cb}, l.Pairwise (Apart Cb.id Cb.nm) → ∀ {j : Nat} {c : Cb}, l[j]? = some c → ∀ {s : ByteArray}, c.nm = s → (l.filter fun x => !eqS x.nm s) = l.eraseIdx j
  | [], _, j, c, h, _, _ => by simp at h
  | a :: r, hp, 0, c, h, s, hs => by
    simp at h; subst h
    rw [List.pairwise_cons] at hp
    rw [List.filter_cons, if_neg (by rw [eqS_iff.2 hs]; simp), List.eraseIdx_cons_zero, List.filter_eq_self]
    intro x hx
    cases e : eqS x.nm s with
    | false => rfl
    | true => exact absurd (hs.trans (eqS_iff.1 e).symm) (hp.1 x hx).2
  | a :: r, hp, j + 1, c, h, s, hs => by
    rw [List.pairwise_cons] at hp
    have hc : r[j]? = some c := by simpa using h
    have hne : eqS a.nm s = false := by
      cases e : eqS a.nm s with
      | false => rfl
      | true => exact absurd ((eqS_iff.1 e).trans hs.symm) (hp.1 c (List.mem_of_getElem? hc)).2
    rw [List.filter_cons, if_pos (by rw [hne]; rfl), List.eraseIdx_cons_succ, filter_erase hp.2 hc hs]
/-- the error of a change of a column that is there -/
def colE (t : Tb) (c : Cb) (d : Dp) : Int := if d.op = 5 then cutE t c else if d.op = 6 then callE t.cols d.to else if d.op = 7 then widE c d.tk d.tm else presE c d.dk d.dn d.ds
theorem wrong_col {L : List Tp} {t : Tb} {d : Dp} (hop : d.op = 5 ∨ d.op = 6 ∨ d.op = 7 ∨ d.op = 8) : wrongE L t.p d = match colV t.cols d.co with
    | none => 13
    | some c => colE t c d := by
  unfold wrongE
  rw [if_neg (by omega), if_neg (by omega), if_neg (by omega)]
  rw [show t.p.cols = t.cols from rfl, show t.p.key = t.key from rfl]
  cases colV t.cols d.co with
  | none => rfl
  | some x =>
    show (if d.op = 5 ∧ x.id = t.key then 15 else if d.op = 6 ∧ rightN (bs d.to) = false then 8 else if d.op = 6 ∧ (colP t.cols d.to).isSome = true then 14
      else if d.op = 7 ∧ rightT d.tk d.tm = false then 9 else if d.op = 7 ∧ wideT d.tk d.tm x.tk x.tm = false then 16 else if d.op = 8 ∧ presetD x.tk x.tm d.dk d.dn d.ds = false then 10 else 0) = colE t x d
    unfold colE cutE callE widE presE
    rcases hop with e | e | e | e
    · simp only [e]; simp
    · simp only [e]; simp
      cases rightN (bs d.to) <;> cases (colP t.cols d.to).isSome <;> rfl
    · simp only [e]; simp
      cases rightT d.tk d.tm <;> cases wideT d.tk d.tm x.tk x.tm <;> rfl
    · simp only [e]; simp
      cases presetD x.tk x.tm d.dk d.dn d.ds <;> rfl
/-- the columns behind a change of one -/
def colsC (l : List Cb) (j : Nat) (c : Cb) (d : Dp) : List Cb := if d.op = 5 then l.eraseIdx j else if d.op = 6 then l.set j { c with nm := d.to } else if d.op = 7 then l.set j (castC d.tk d.tm c) else l.set j { c with dk := d.dk, dn := d.dn, ds := d.ds }
theorem colsC_eq {t : Tb} {d : Dp} (hop : d.op = 5 ∨ d.op = 6 ∨ d.op = 7 ∨ d.op = 8) (hp : t.cols.Pairwise (Apart Cb.id Cb.nm)) {j : Nat} {c : Cb} (hj : t.cols[j]? = some c) (hs : c.nm = d.co) : tableD t.p d = ⟨t.id, t.nm, t.key, t.nx, colsC t.cols j c d⟩ := by
  have h3 : ¬ d.op = 3 := by omega
  have h4 : ¬ d.op = 4 := by omega
  have hc : colsD t.p d = colsC t.cols j c d := by
    unfold colsD colsC
    rw [if_neg h4, show t.p.cols = t.cols from rfl]
    rcases hop with e | e | e | e
    · rw [if_pos e, if_pos e]; exact filter_erase hp hj hs
    · rw [if_neg (by omega), if_pos e, if_neg (by omega), if_pos e]; exact map_set hp hj hs fun c => { c with nm := d.to }
    · rw [if_neg (by omega), if_neg (by omega), if_pos e, if_neg (by omega), if_neg (by omega), if_pos e]; exact map_set hp hj hs fun c => castC d.tk d.tm c
    · rw [if_neg (by omega), if_neg (by omega), if_neg (by omega), if_pos e, if_neg (by omega), if_neg (by omega), if_neg (by omega)]; exact map_set hp hj hs fun c => { c with dk := d.dk, dn := d.dn, ds := d.ds }
  unfold tableD
  rw [if_neg h3, if_neg h4, hc]; rfl
set_option maxRecDepth 100000 in
set_option maxHeartbeats 4000000 in
theorem chcol_any (g cap k : Nat) (l : List Tb) (t : Tb) (d : Db) (w : World) (B Bc : Nat) (ht : UTab w) (hO : OwnTb w B (.slice (some ⟨g, 0, none⟩) l.length cap) l) (hk : l[k]? = some t)
    (hC : OwnC w Bc (.slice t.A t.cols.length t.cap) t.cols) (hgB : g < Bc) (hl0 : 0 < t.cols.length) (hl : t.cols.length ≤ 10) (hto : d.p.to.size ≤ 1000000)
    (hr : ∀ c ∈ t.cols, rightC c = true) (h64 : W64 t.cols) (hp : t.cols.Pairwise (Apart Cb.id Cb.nm)) (L : List Tp) (hop : d.p.op = 5 ∨ d.p.op = 6 ∨ d.p.op = 7 ∨ d.p.op = 8) :
    Calls Tryz.prog 56 #[.pointer (some ⟨g, k * 5, none⟩), DV d] w fun e w' => e = .returned (.int .i64 (wrongE L t.p d.p)) ∧ Off (fun x => x = g ∨ colBk t = some x) w w' ∧
      (wrongE L t.p d.p = 0 → ∃ t' : Tb, t'.p = tableD t.p d.p ∧ OwnTb w' B (.slice (some ⟨g, 0, none⟩) l.length cap) (l.set k t') ∧ OwnC w' Bc (.slice t'.A t'.cols.length t'.cap) t'.cols) := by
  obtain ⟨w0, hw0, hb0, hX, hs0⟩ := box_ddl w d
  have Hw0 := Lib.hid hw0; clear hw0
  have Hb0 := Lib.hid hb0
  have Hk := Lib.hid hk
  obtain ⟨gc, cc, hsh, hgc1, hgc2, hgc3, hgc4⟩ := OwnR.shape hC hl0
  have hA9 : t.A = some ⟨gc, 0, none⟩ := by injection hsh
  have hc9 : t.cap = cc := by injection hsh
  clear hsh hgc3 hgc4
  have HcB : Hid (colBk t = some gc) := by show _ = _; unfold colBk; rw [hA9]; rfl
  rw [hA9, hc9] at hC
  obtain ⟨e0, e1, e2, e3, e4⟩ := tab_cells hO hk
  rw [hA9, hc9] at e4
  clear hk
  have HO0 := Lib.hid (hO.below hb0); clear hO
  have HC0 := Lib.hid (hC.below hb0); clear hC
  have HT := Lib.hid (ht.below hb0 (Nat.le_refl _)); clear ht hb0
  have HX := Lib.hid hX; clear hX
  have Hs0 := Lib.hid hs0; clear hs0
  have HAt : Hid (TabAt w0 w0.heap.size t) := by
    show RowAt _ _ _ _ _ _
    rw [hA9]; exact HC0.out.at lenC
  have HAd : Hid (TabAt w0.drew w0.drew.heap.size t) := HAt.out
  have HCl := Lib.hid (fun w' hA' => scol_any t d.p.co w' hA' (by omega))
  have He := Lib.hid (wrong_col (L := L) (t := t) hop)
  have Hhr := Lib.hid hr; clear hr
  have H64 := Lib.hid h64; clear h64
  have Hp := Lib.hid hp; clear hp
  generalize wrongE L t.p d.p = E at He ⊢
  obtain ⟨d0, d1, d2, d3, d4⟩ := tab_cells HO0.out Hk.out
  rw [hA9, hc9] at d4
  clear e0 e1 e2 e3 e4
  obtain ⟨x0, x1, x2, x3, x4, x5, x6, x7, x8, x9, x10, x11⟩ := HX.out.ddl
  unfold TV at HCl
  rw [hA9, hc9] at HCl
  rw [show colI t d.p.co = colP t.cols d.p.co from rfl] at HCl
  cases hco : colP t.cols d.p.co with
  | none =>
    have He2 : Hid (E = 13) := by show _ = _; rw [He.out]; unfold colV; rw [hco]; rfl
    rw [hco, show fstV none = .tuple #[.int .i64 0, .bool false] from rfl] at HCl
    clear hco
    go_enter Tryz.func56, Tryz.ntmps56
    go_wp2_with fail
    rw [Hw0.out]
    go_region_with (first
      | (go_at_call 77; refine (HCl.out _ HAd.out).mono ?_; rintro e w2 ⟨rfl, hb2⟩; have Hb2 := Lib.hid (bthen Hb0.out ((Below.refl w0.heap.size w0).drew.trans hb2)); clear hb2)
      | fail)
    all_goals
      go_wp2_with fail
      go_ret
      exact ⟨by rw [He2.out]; rfl, .of_below Hb2.out, fun h => by rw [He2.out] at h; cases h⟩
  | some j =>
    obtain ⟨c, hc1, hc2, _⟩ := find_some (show t.cols.findIdx? (fun c => eqS c.nm d.p.co) = some j from hco)
    have hjl := (List.getElem?_eq_some_iff.1 hc1).1
    have He2 : Hid (E = colE t c d.p) := by show _ = _; rw [He.out]; unfold colV; rw [hco]; simp only [Option.bind_some, hc1]
    rw [hco, show fstV (some j) = .tuple #[.int .i64 (j : Int), .bool true] from rfl] at HCl
    have Hj := Lib.hid hc1
    have Htd := Lib.hid (colsC_eq hop Hp.out hc1 (eqS_iff.1 hc2))
    have Hcm := Lib.hid (List.mem_of_getElem? hc1)
    clear hco hc1 hc2 He
    have hj0 : (0 : Int) ≤ (j : Int) := by omega
    have hjI : (j : Int) < (t.cols.length : Int) := by omega
    have Hdone : Hid (∀ w' : World, Off (fun x => x = g ∨ x = gc) w w' → Off (fun x => x = g ∨ colBk t = some x) w w') := fun w' h => h.mono fun x _ e => by
      rcases e with e | e
      · exact .inl e
      · right; rw [HcB.out, e]
    -- what one of the four does
    have Hfin : Hid (∀ w2 w' (cs : List Cb), Below w.heap.size w w2 → OwnTb w2 B (.slice (some ⟨g, 0, none⟩) l.length cap) l → Off (fun x => x = gc) w2 w' → cs.length = t.cols.length → cs = colsC t.cols j c d.p → OwnC w' Bc (.slice (some ⟨gc, 0, none⟩) t.cols.length cc) cs →
        Off (fun x => x = g ∨ colBk t = some x) w w' ∧ ∃ t' : Tb, t'.p = tableD t.p d.p ∧ OwnTb w' B (.slice (some ⟨g, 0, none⟩) l.length cap) (l.set k t') ∧ OwnC w' Bc (.slice t'.A t'.cols.length t'.cap) t'.cols) := fun w2 w' cs hb2 hO2 hof hcl hcs hoc => by
      refine ⟨Hdone.out _ ((Off.behind hb2 hof).mono fun x _ e => .inr e), ⟨t.id, t.nm, t.key, t.nx, t.A, t.cap, cs⟩, ?_, ?_, ?_⟩
      · rw [Htd.out, ← hcs]; rfl
      · have h1 := OwnR.off hO2 hof (fun x hx e => by simp [Value.ownBlock] at hx; omega)
        have h2 : flt fT (l.set k ⟨t.id, t.nm, t.key, t.nx, t.A, t.cap, cs⟩) = flt fT l := by
          rw [flat_set lenT l k t ⟨t.id, t.nm, t.key, t.nx, t.A, t.cap, cs⟩ 4 (.slice t.A t.cols.length t.cap) Hk.out (by omega) (by simp [fT, hcl])]
          have h3 := flat_get lenT l k t 4 _ Hk.out rfl
          obtain ⟨h4, h5⟩ := List.getElem?_eq_some_iff.1 h3
          rw [← h5]
          exact List.set_getElem_self h4
        have h1' : World.ownsRow w' B 45 5 (.slice (some ⟨g, 0, none⟩) l.length cap) l.length (flt fT l) := h1
        show World.ownsRow w' B 45 5 (.slice (some ⟨g, 0, none⟩) l.length cap) (l.set k ⟨t.id, t.nm, t.key, t.nx, t.A, t.cap, cs⟩).length (flt fT (l.set k ⟨t.id, t.nm, t.key, t.nx, t.A, t.cap, cs⟩))
        rw [List.length_set, h2]; exact h1'
      · show OwnC w' Bc (.slice t.A cs.length t.cap) cs
        rw [hcl, hA9, hc9]; exact hoc
    have Hne1 : Hid (gc < w.heap.size) := hgc2
    rcases hop with o5 | o6 | o7 | o8
    · have He3 : Hid (E = cutE t c) := by show _ = _; rw [He2.out]; unfold colE; rw [if_pos o5]
      have Hcs : Hid (colsC t.cols j c d.p = t.cols.eraseIdx j) := by show _ = _; unfold colsC; rw [if_pos o5]
      have HF := Lib.hid (fun w' hO' hC' => dcut_any g cap k gc cc j l t c w' B Bc hO' Hk.out hA9 hc9 hC' Hj.out (by omega) (by omega))
      generalize cutE t c = F at HF He3
      have q5 : (d.p.op == 5) = true := by rw [beq_iff_eq]; exact o5
      clear He2 o5
      go_enter Tryz.func56, Tryz.ntmps56
      go_wp2_with fail
      rw [Hw0.out]
      go_region_with (first
        | (go_at_call 77; refine (HCl.out _ HAd.out).mono ?_; rintro e w2 ⟨rfl, hb2⟩; have Hb2 := Lib.hid ((Below.refl w0.heap.size w0).drew.trans hb2); clear hb2)
        | fail)
      all_goals
        clear x0 x1 x2 x3 x4 x5 x6 x7 x8 x9 x10 x11 d0 d1 d2 d3 d4
        have Hb2w := Lib.hid (bthen Hb0.out Hb2.out)
        have HX2 := Lib.hid (HX.out.below Hb2.out (by have := Hs0.out; omega))
        obtain ⟨x0, x1, x2, x3, x4, x5, x6, x7, x8, x9, x10, x11⟩ := HX2.out.ddl
        have HO2 := Lib.hid (HO0.out.below Hb2.out)
        have HC2 := Lib.hid (HC0.out.below Hb2.out)
        have HT2 := Lib.hid (HT.out.below Hb2.out (Nat.le_refl _))
        obtain ⟨d0, d1, d2, d3, d4⟩ := tab_cells HO2.out Hk.out
        rw [hA9, hc9] at d4
        have HF2 := Lib.hid (HF.out w2 HO2.out HC2.out)
        go_wp2_with fail
        refine HF2.out.mono ?_
        rintro e w3 ⟨rfl, hbad, hok⟩
        have Hbad := Lib.hid hbad
        have Hok := Lib.hid hok
        clear hbad hok
        go_wp2_with fail
        go_ret
        by_cases hF : F = 0
        · obtain ⟨h1, h2, h3⟩ := Hok.out hF
          have hel : (t.cols.eraseIdx j).length = t.cols.length - 1 := by rw [List.length_eraseIdx, if_pos hjl]
          refine ⟨by rw [He3.out]; rfl, Hdone.out _ (Off.behind Hb2w.out h1), fun _ => ⟨{ t with cols := t.cols.eraseIdx j }, ?_, h3, ?_⟩⟩
          · rw [Htd.out, Hcs.out]; rfl
          · show OwnC w3 Bc (.slice t.A (t.cols.eraseIdx j).length t.cap) (t.cols.eraseIdx j)
            rw [hel, hA9, hc9]; exact h2
        · exact ⟨by rw [He3.out]; rfl, .of_below (bthen Hb2w.out (Hbad.out hF)), fun h => absurd (He3.out.symm.trans h) hF⟩
    · have He3 : Hid (E = callE t.cols d.p.to) := by show _ = _; rw [He2.out]; unfold colE; rw [if_neg (by omega), if_pos o6]
      have Hcs : Hid (colsC t.cols j c d.p = t.cols.set j { c with nm := d.p.to }) := by show _ = _; unfold colsC; rw [if_neg (by omega), if_pos o6]
      have HF := Lib.hid (fun w' hO' hC' => dcall_any g cap k gc cc j l t c d.p.to w' B Bc hO' Hk.out hA9 hc9 hC' Hj.out (by omega) hto)
      generalize callE t.cols d.p.to = F at HF He3
      have q5 : (d.p.op == 5) = false := by rw [beq_eq_false_iff_ne]; omega
      have q6 : (d.p.op == 6) = true := by rw [beq_iff_eq]; exact o6
      clear He2 o6
      go_enter Tryz.func56, Tryz.ntmps56
      go_wp2_with fail
      rw [Hw0.out]
      go_region_with (first
        | (go_at_call 77; refine (HCl.out _ HAd.out).mono ?_; rintro e w2 ⟨rfl, hb2⟩; have Hb2 := Lib.hid ((Below.refl w0.heap.size w0).drew.trans hb2); clear hb2)
        | fail)
      all_goals
        clear x0 x1 x2 x3 x4 x5 x6 x7 x8 x9 x10 x11 d0 d1 d2 d3 d4
        have Hb2w := Lib.hid (bthen Hb0.out Hb2.out)
        have HX2 := Lib.hid (HX.out.below Hb2.out (by have := Hs0.out; omega))
        obtain ⟨x0, x1, x2, x3, x4, x5, x6, x7, x8, x9, x10, x11⟩ := HX2.out.ddl
        have HO2 := Lib.hid (HO0.out.below Hb2.out)
        have HC2 := Lib.hid (HC0.out.below Hb2.out)
        have HT2 := Lib.hid (HT.out.below Hb2.out (Nat.le_refl _))
        obtain ⟨d0, d1, d2, d3, d4⟩ := tab_cells HO2.out Hk.out
        rw [hA9, hc9] at d4
        have HF2 := Lib.hid (HF.out w2 HO2.out HC2.out)
        go_wp2_with fail
        refine HF2.out.mono ?_
        rintro e w3 ⟨rfl, hbad, hok⟩
        have Hbad := Lib.hid hbad
        have Hok := Lib.hid hok
        clear hbad hok
        go_wp2_with fail
        go_ret
        by_cases hF : F = 0
        · obtain ⟨h1, h2⟩ := Hok.out hF
          have h3 := Hfin.out w2 w3 _ Hb2w.out HO2.out h1 (by simp) Hcs.out.symm h2
          exact ⟨by rw [He3.out]; rfl, h3.1, fun _ => h3.2⟩
        · exact ⟨by rw [He3.out]; rfl, .of_below (bthen Hb2w.out (Hbad.out hF)), fun h => absurd (He3.out.symm.trans h) hF⟩
    · have He3 : Hid (E = widE c d.p.tk d.p.tm) := by show _ = _; rw [He2.out]; unfold colE; rw [if_neg (by omega), if_neg (by omega), if_pos o7]
      have Hcs : Hid (colsC t.cols j c d.p = t.cols.set j (castC d.p.tk d.p.tm c)) := by show _ = _; unfold colsC; rw [if_neg (by omega), if_neg (by omega), if_pos o7]
      have hrc := ((rightC_iff c).1 (Hhr.out c Hcm.out)).2.2.2.2
      have HF := Lib.hid (fun w' ht' hC' => widen_any gc cc j t.cols c d.p.tk d.p.tm w' Bc ht' hC' Hj.out hrc (H64.out c Hcm.out).1 (H64.out c Hcm.out).2)
      generalize widE c d.p.tk d.p.tm = F at HF He3
      have q5 : (d.p.op == 5) = false := by rw [beq_eq_false_iff_ne]; omega
      have q6 : (d.p.op == 6) = false := by rw [beq_eq_false_iff_ne]; omega
      have q7 : (d.p.op == 7) = true := by rw [beq_iff_eq]; exact o7
      clear He2 o7 hrc
      go_enter Tryz.func56, Tryz.ntmps56
      go_wp2_with fail
      rw [Hw0.out]
      go_region_with (first
        | (go_at_call 77; refine (HCl.out _ HAd.out).mono ?_; rintro e w2 ⟨rfl, hb2⟩; have Hb2 := Lib.hid ((Below.refl w0.heap.size w0).drew.trans hb2); clear hb2)
        | fail)
      all_goals
        clear x0 x1 x2 x3 x4 x5 x6 x7 x8 x9 x10 x11 d0 d1 d2 d3 d4
        have Hb2w := Lib.hid (bthen Hb0.out Hb2.out)
        have HX2 := Lib.hid (HX.out.below Hb2.out (by have := Hs0.out; omega))
        obtain ⟨x0, x1, x2, x3, x4, x5, x6, x7, x8, x9, x10, x11⟩ := HX2.out.ddl
        have HO2 := Lib.hid (HO0.out.below Hb2.out)
        have HC2 := Lib.hid (HC0.out.below Hb2.out)
        have HT2 := Lib.hid (HT.out.below Hb2.out (Nat.le_refl _))
        obtain ⟨d0, d1, d2, d3, d4⟩ := tab_cells HO2.out Hk.out
        rw [hA9, hc9] at d4
        have HF2 := Lib.hid (HF.out w2.drew HT2.out.drew HC2.out)
        go_wp2_with fail
        go_region_with (first
          | (go_at_call 80; refine HF2.out.mono ?_; rintro e w3 ⟨rfl, hbad, hok⟩; have Hbad := Lib.hid hbad; have Hok := Lib.hid hok; clear hbad hok)
          | fail)
        all_goals
          go_wp2_with fail
          go_ret
          by_cases hF : F = 0
          · obtain ⟨h1, h2⟩ := Hok.out hF
            have h3 := Hfin.out w2.drew w3 _ Hb2w.out.drew HO2.out h1 (by simp) Hcs.out.symm h2
            exact ⟨by rw [He3.out]; rfl, h3.1, fun _ => h3.2⟩
          · exact ⟨by rw [He3.out]; rfl, .of_below (bthen Hb2w.out.drew (Hbad.out hF)), fun h => absurd (He3.out.symm.trans h) hF⟩
    · have He3 : Hid (E = presE c d.p.dk d.p.dn d.p.ds) := by show _ = _; rw [He2.out]; unfold colE; rw [if_neg (by omega), if_neg (by omega), if_neg (by omega)]
      have Hcs : Hid (colsC t.cols j c d.p = t.cols.set j { c with dk := d.p.dk, dn := d.p.dn, ds := d.p.ds }) := by show _ = _; unfold colsC; rw [if_neg (by omega), if_neg (by omega), if_neg (by omega)]
      have HF := Lib.hid (fun w' ht' hC' => preset_any gc cc j t.cols c d.p.dk d.p.dn d.p.ds w' Bc ht' hC' Hj.out)
      generalize presE c d.p.dk d.p.dn d.p.ds = F at HF He3
      have q5 : (d.p.op == 5) = false := by rw [beq_eq_false_iff_ne]; omega
      have q6 : (d.p.op == 6) = false := by rw [beq_eq_false_iff_ne]; omega
      have q7 : (d.p.op == 7) = false := by rw [beq_eq_false_iff_ne]; omega
      clear He2 o8
      go_enter Tryz.func56, Tryz.ntmps56
      go_wp2_with fail
      rw [Hw0.out]
      go_region_with (first
        | (go_at_call 77; refine (HCl.out _ HAd.out).mono ?_; rintro e w2 ⟨rfl, hb2⟩; have Hb2 := Lib.hid ((Below.refl w0.heap.size w0).drew.trans hb2); clear hb2)
        | fail)
      all_goals
        clear x0 x1 x2 x3 x4 x5 x6 x7 x8 x9 x10 x11 d0 d1 d2 d3 d4
        have Hb2w := Lib.hid (bthen Hb0.out Hb2.out)
        have HX2 := Lib.hid (HX.out.below Hb2.out (by have := Hs0.out; omega))
        obtain ⟨x0, x1, x2, x3, x4, x5, x6, x7, x8, x9, x10, x11⟩ := HX2.out.ddl
        have HO2 := Lib.hid (HO0.out.below Hb2.out)
        have HC2 := Lib.hid (HC0.out.below Hb2.out)
        have HT2 := Lib.hid (HT.out.below Hb2.out (Nat.le_refl _))
        obtain ⟨d0, d1, d2, d3, d4⟩ := tab_cells HO2.out Hk.out
        rw [hA9, hc9] at d4
        have HF2 := Lib.hid (HF.out w2.drew HT2.out.drew HC2.out)
        go_wp2_with fail
        go_region_with (first
          | (go_at_call 81; refine HF2.out.mono ?_; rintro e w3 ⟨rfl, hbad, hok⟩; have Hbad := Lib.hid hbad; have Hok := Lib.hid hok; clear hbad hok)
          | fail)
        all_goals
          go_wp2_with fail
          go_ret
          by_cases hF : F = 0
          · obtain ⟨h1, h2⟩ := Hok.out hF
            have h3 := Hfin.out w2.drew w3 _ Hb2w.out.drew HO2.out h1 (by simp) Hcs.out.symm h2
            exact ⟨by rw [He3.out]; rfl, h3.1, fun _ => h3.2⟩
          · exact ⟨by rw [He3.out]; rfl, .of_below (bthen Hb2w.out.drew (Hbad.out hF)), fun h => absurd (He3.out.symm.trans h) hF⟩
end Go.Proofs.YtlbdbaafmdikcaaGreatDoor

/-
  Contract of package ddl's change: one change of a catalog of the call's own.
-/
namespace Go.Proofs.YtlbdbaafmdikcaaGreatDoor
open Go.RowKit

theorem fits_col {W : World} {b : Nat} {u : Tb} (h : OwnC W b (.slice u.A u.cols.length u.cap) u.cols) : u.cols.length ≤ u.cap := by
  obtain ⟨A9, cap9, e, h9, _⟩ := h.form
  injection e with _ _ e3
  omega
theorem map_erase : ∀ (l : List Tb) (k : Nat), (l.eraseIdx k).map Tb.p = (l.map Tb.p).eraseIdx k
  | [], k => rfl
  | a :: r, 0 => rfl
  | a :: r, k + 1 => by simp [map_erase r k]
/-- what a change of one table leaves -/
theorem OwnCat.cat {w w' : World} {B Bc B2 g cap bx : Nat} {l : List Tb} {k : Nat} {t t' : Tb} {R : List Tp} (h : OwnCat w B Bc (.slice (some ⟨g, 0, none⟩) l.length cap) l) (hk : l[k]? = some t) (hcap : l.length ≤ cap)
    (hrow : OwnTb w' B (.slice (some ⟨g, 0, none⟩) l.length cap) (l.set k t')) (hcol : OwnC w' B2 (.slice t'.A t'.cols.length t'.cap) t'.cols)
    (hw : Off (fun x => x = g ∨ colBk t = some x) w w') (hbn : ¬ InCat (.slice (some ⟨g, 0, none⟩) l.length cap) l bx) (hbx : w.cell? ⟨bx, 0, none⟩ = some (.slice (some ⟨g, 0, none⟩) l.length cap)) (hR : (l.map Tb.p).set k t'.p = R) :
    ∃ A' cap' l', w'.cell? ⟨bx, 0, none⟩ = some (.slice A' l'.length cap') ∧ CatAt w' A' cap' l' ∧ l'.map Tb.p = R := by
  refine ⟨some ⟨g, 0, none⟩, cap, l.set k t', ?_, ⟨h.set hk hrow hcol hw, by rw [List.length_set]; exact hcap, fun s hs => ?_⟩, by rw [List.map_set]; exact hR⟩
  · rw [List.length_set]
    refine hw.keep hbx fun e => hbn ?_
    rcases e with e | e
    · exact .inl (congrArg some (Eq.symm e))
    · exact .inr ⟨t, List.mem_of_getElem? hk, e⟩
  · rcases List.mem_or_eq_of_mem_set hs with hs | rfl
    · exact fits_col (h.cols s hs)
    · exact fits_col hcol
theorem in_cat {g n cap k : Nat} {l : List Tb} {t : Tb} (hk : l[k]? = some t) {w w' : World} (h : Off (fun x => x = g ∨ colBk t = some x) w w') : Off (fun x => InCat (.slice (some ⟨g, 0, none⟩) n cap) l x) w w' := h.mono fun x _ e => by
  rcases e with e | e
  · left; show some g = some x; rw [e]
  · exact .inr ⟨t, List.mem_of_getElem? hk, e⟩
/-- what is left when a table is removed -/
theorem OwnCat.drop {w w' : World} {B Bc g cap bx k : Nat} {l : List Tb} {R : List Tp} (h : OwnCat w B Bc (.slice (some ⟨g, 0, none⟩) l.length cap) l) (hkl : k < l.length) (hcap : l.length ≤ cap)
    (hrow : OwnTb w' B (.slice (some ⟨g, 0, none⟩) (l.length - 1) cap) (l.eraseIdx k)) (hw : Off (fun x => x = g) w w') (hbn : ¬ InCat (.slice (some ⟨g, 0, none⟩) l.length cap) l bx) (hbx : w.heap[bx]? = some (.cells #[.slice (some ⟨g, 0, none⟩) l.length cap] 37 (0, 0)))
    (hR : (l.map Tb.p).eraseIdx k = R) :
    w'.cell? ⟨bx, 0, none⟩ = some (.slice (some ⟨g, 0, none⟩) l.length cap) ∧ w'.frozen? ⟨bx, 0, none⟩ = false ∧
    Off (fun x => InCat (.slice (some ⟨g, 0, none⟩) l.length cap) l x ∨ x = bx) w (w'.setCell ⟨bx, 0, none⟩ (.slice (some ⟨g, 0, none⟩) (l.length - 1) cap)) ∧
    ∃ A' cap' l', (w'.setCell ⟨bx, 0, none⟩ (.slice (some ⟨g, 0, none⟩) (l.length - 1) cap)).cell? ⟨bx, 0, none⟩ = some (.slice A' l'.length cap') ∧ CatAt (w'.setCell ⟨bx, 0, none⟩ (.slice (some ⟨g, 0, none⟩) (l.length - 1) cap)) A' cap' l' ∧ l'.map Tb.p = R := by
  have hne : bx ≠ g := fun e => hbn (.inl (by show some g = some bx; rw [e]))
  have hbw : bx < w.heap.size := (Array.getElem?_eq_some_iff.1 hbx).1
  have hb : w'.heap[bx]? = some (.cells #[.slice (some ⟨g, 0, none⟩) l.length cap] 37 (0, 0)) := (hw.block bx hbw hne).trans hbx
  have hc : w'.cell? ⟨bx, 0, none⟩ = some (.slice (some ⟨g, 0, none⟩) l.length cap) := by rw [cell_of_row w' bx 0 _ _ (0, 0) hb]; rfl
  have hel : (l.eraseIdx k).length = l.length - 1 := by rw [List.length_eraseIdx, if_pos hkl]
  have hof := Off.set w' bx 0 (.slice (some ⟨g, 0, none⟩) (l.length - 1) cap)
  refine ⟨hc, frozen_of_row w' bx 0 _ _ hb, ?_, some ⟨g, 0, none⟩, cap, l.eraseIdx k, ?_, ⟨⟨?_, fun t ht => ?_⟩, by omega, fun t ht => fits_col (h.cols t (List.mem_of_mem_eraseIdx ht))⟩, ?_⟩
  · exact (hw.mono fun x _ e => .inl (.inl (by show some g = some x; rw [e]))).trans (hof.mono fun x _ e => .inr e)
  · rw [hel]; exact World.cell?_setCell_same _ _ _ hc
  · exact (OwnR.off hrow hof (fun x hx e => by
      have : g = x := by simpa [Value.ownBlock] using hx
      omega)).at lenT
  · have htl := List.mem_of_mem_eraseIdx ht
    refine (OwnR.off (OwnR.off (h.cols t htl) hw fun x hx e => ?_) hof fun x hx e => ?_).at lenC
    · have := ((h.cols t htl).lt x hx).1
      have := h.ahead g rfl
      omega
    · exact hbn (.inr ⟨t, htl, hx.trans (congrArg some e)⟩)
  · rw [← hR]
    exact map_erase l k
/-- the error of a change, of a right catalog and a plain change -/
noncomputable def chgE (L : List Tp) (d : Dp) (id : Int) : Int := if d.op = 1 then createE L d id else match (findT L d.tb).bind fun k => L[k]? with
    | none => 12
    | some t => wrongE L t d
set_option maxRecDepth 100000 in
set_option maxHeartbeats 3000000 in
theorem change_any (bx : Nat) (A : Option Addr) (cap : Nat) (l : List Tb) (d : Db) (id : Int) (w : World) (B Bc : Nat) (ht : UTab w) (hO : OwnCat w B Bc (.slice A l.length cap) l) (hbx : w.heap[bx]? = some (.cells #[.slice A l.length cap] 37 (0, 0)))
    (hbn : ¬ InCat (.slice A l.length cap) l bx) (hD : DdlAt w w.heap.size d) (hBw : Bc ≤ w.heap.size) (hR : RightL (l.map Tb.p)) (h64 : ∀ t ∈ l, W64 t.cols) (hop : 1 ≤ d.p.op ∧ d.p.op ≤ 8) (hn : d.p.tb.size ≤ 1000000) (hco : d.p.co.size ≤ 1000000) (hto : d.p.to.size ≤ 1000000) (hw : ∀ c ∈ d.p.cols, c.nm.size ≤ 1000000) :
    Calls Tryz.prog 34 #[.pointer (some ⟨bx, 0, none⟩), DV d, .int .i64 id] w fun e w' => e = .returned (.int .i64 (chgE (l.map Tb.p) d.p id)) ∧ Off (fun x => InCat (.slice A l.length cap) l x ∨ x = bx) w w' ∧
      (chgE (l.map Tb.p) d.p id = 0 → ∃ A' cap' l', w'.cell? ⟨bx, 0, none⟩ = some (.slice A' l'.length cap') ∧ CatAt w' A' cap' l' ∧ l'.map Tb.p = applyR (l.map Tb.p) d.p id) := by
  have hbxw : bx < w.heap.size := (Array.getElem?_eq_some_iff.1 hbx).1
  have hl6 : l.length ≤ 6 := by have := hR.1; rwa [List.length_map] at this
  obtain ⟨w0, hw0, hb0, hX, hs0⟩ := box_ddl w d
  have Hw0 := Lib.hid hw0; clear hw0
  have Hb0 := Lib.hid hb0
  have HO0 := Lib.hid (hO.below hb0)
  have Hbase := Lib.hid hO.base
  clear hO
  have HD0 := Lib.hid (hD.to hb0); clear hD
  have HT := Lib.hid (ht.below hb0 (Nat.le_refl _)); clear ht
  have Hbx0 : Hid (w0.heap[bx]? = some (.cells #[.slice A l.length cap] 37 (0, 0))) := (hb0.block bx hbxw).trans hbx
  clear hbx
  have HBw0 : Hid (Bc ≤ w0.heap.size) := Nat.le_trans hBw hb0.size
  have Hs0 := Lib.hid hs0; clear hs0 hb0
  have HX := Lib.hid hX; clear hX
  have Hbn := Lib.hid hbn; clear hbn
  have HR := Lib.hid hR; clear hR
  have H64 := Lib.hid h64; clear h64
  have HWc := Lib.hid hw; clear hw
  obtain ⟨x0, x1, x2, x3, x4, x5, x6, x7, x8, x9, x10, x11⟩ := HX.out.ddl
  by_cases h1 : d.p.op = 1
  · have Hc := Lib.hid (create_any bx A cap l d id w0 B Bc HT.out HO0.out Hbx0.out Hbn.out HD0.out (Nat.le_trans Hbase.out HBw0.out) hl6 HR.out.2.2 hn HWc.out)
    have He : Hid (chgE (l.map Tb.p) d.p id = createE (l.map Tb.p) d.p id) := by show _ = _; unfold chgE; rw [if_pos h1]
    have HRr : Hid (applyR (l.map Tb.p) d.p id = insT (madeT d.p id) (l.map Tb.p)) := by show _ = _; unfold applyR; rw [if_pos h1]
    rw [He.out, HRr.out]
    generalize createE (l.map Tb.p) d.p id = E at Hc ⊢
    rw [← Hw0.out] at Hc
    have q1 : (d.p.op == 1) = true := by rw [beq_iff_eq]; exact h1
    clear h1 hop
    go_enter Tryz.func34, Tryz.ntmps34
    go_wp2_with fail
    refine Hc.out.mono ?_
    rintro e w2 ⟨rfl, hof, hok⟩
    rw [Hw0.out] at hof
    have Hof := Lib.hid (Off.behind Hb0.out hof)
    have Hok := Lib.hid hok
    clear hof hok
    go_wp2_with fail
    go_ret
    exact ⟨rfl, Hof.out, Hok.out⟩
  have q1 : (d.p.op == 1) = false := by rw [beq_eq_false_iff_ne]; exact h1
  have He : Hid (chgE (l.map Tb.p) d.p id = match (findT (l.map Tb.p) d.p.tb).bind fun k => (l.map Tb.p)[k]? with
    | none => 12
    | some t => wrongE (l.map Tb.p) t d.p) := by show _ = _; unfold chgE; rw [if_neg h1]
  have Hop := Lib.hid hop
  have Hn1 := Lib.hid h1
  clear h1 hop
  have HA0 := Lib.hid HO0.out.at
  have HAd : Hid (TabsAt w0.drew w0.drew.heap.size A l) := HA0.out.below (Below.refl _ _).drew
  have HFd := Lib.hid (fun w' hA' => sfind_any A cap l d.p.tb w' hA' (by omega))
  rw [find_p] at HFd
  have c0 : w0.cell? ⟨bx, 0, none⟩ = some (.slice A l.length cap) := by rw [cell_of_row w0 bx 0 _ _ (0, 0) Hbx0.out]; rfl
  have Hc0 := Lib.hid c0
  cases hf : findT (l.map Tb.p) d.p.tb with
  | none =>
    have He2 : Hid (chgE (l.map Tb.p) d.p id = 12) := by show _ = _; rw [He.out, hf]; rfl
    rw [hf, show fstV none = .tuple #[.int .i64 0, .bool false] from rfl] at HFd
    generalize chgE (l.map Tb.p) d.p id = E at He2 ⊢
    clear hf
    go_enter Tryz.func34, Tryz.ntmps34
    go_wp2_with fail
    rw [Hw0.out]
    go_region_with (first
      | (go_at_call 52; refine (HFd.out _ HAd.out).mono ?_; rintro e w2 ⟨rfl, hb2⟩; have Hb2 := Lib.hid (bthen Hb0.out ((Below.refl w0.heap.size w0).drew.trans hb2)); clear hb2)
      | fail)
    all_goals
      go_wp2_with fail
      go_ret
      exact ⟨by rw [He2.out]; rfl, .of_below Hb2.out, fun h => by rw [He2.out] at h; cases h⟩
  | some k =>
    obtain ⟨tp, htp, htn⟩ := findT_some hf
    obtain ⟨t, hk, htp2⟩ : ∃ t, l[k]? = some t ∧ t.p = tp := by
      rw [List.getElem?_map] at htp
      cases hq : l[k]? with
      | none => rw [hq] at htp; cases htp
      | some t => rw [hq] at htp; exact ⟨t, rfl, by simpa using htp⟩
    subst htp2
    have He2 : Hid (chgE (l.map Tb.p) d.p id = wrongE (l.map Tb.p) t.p d.p) := by show _ = _; rw [He.out, hf]; simp only [Option.bind_some, htp]
    have Hrt := Lib.hid (HR.out.2.1 t.p (List.mem_of_getElem? htp))
    have HRr : Hid (applyR (l.map Tb.p) d.p id = if d.p.op = 2 then (l.map Tb.p).eraseIdx k else (l.map Tb.p).set k (tableD t.p d.p)) := by
      show _ = _
      unfold applyR
      rw [if_neg Hn1.out, hf]
      simp only [htp]
    rw [hf, show fstV (some k) = .tuple #[.int .i64 (k : Int), .bool true] from rfl] at HFd
    have Hk := Lib.hid hk
    have hkl := (List.getElem?_eq_some_iff.1 hk).1
    have Htm := Lib.hid (List.mem_of_getElem? hk)
    clear hf hk htp htn He
    obtain ⟨g, cap', hsh, hg1, hg2, hg3, hg4⟩ := OwnR.shape HO0.out.row (by omega)
    cases hsh
    have hgB : g < Bc := HO0.out.ahead g rfl
    have Hht := Lib.hid (show t.cols.length ≤ 10 ∧ 1 ≤ t.cols.length ∧ t.nx ≤ 200 ∧ 0 ≤ t.nx by
      obtain ⟨_, _, a3, a4, a5, a6, _, kc, k1, _⟩ := Hrt.out
      have b1 := a6 kc k1
      have b2 := ((rightC_iff kc).1 b1.1).1
      refine ⟨a5, a4, a3, ?_⟩
      have : kc.id < t.nx := b1.2
      omega)
    have hk0 : (0 : Int) ≤ (k : Int) := by omega
    have hkI : (k : Int) < (l.length : Int) := by omega
    have hwk : IntKind.i64.wrap ((k : Int) + 1) = (k : Int) + 1 := by rw [IntKind.wrap_i64]; omega
    have Hcapl := Lib.hid hg3
    clear hg3 hg4
    rw [He2.out, HRr.out]
    -- the state behind Find
    have Hlater : Hid (∀ w2, Below w0.heap.size w0 w2 → UTab w2 ∧ OwnCat w2 B Bc (.slice (some ⟨g, 0, none⟩) l.length cap) l ∧ w2.heap[bx]? = some (.cells #[.slice (some ⟨g, 0, none⟩) l.length cap] 37 (0, 0)) ∧ w2.cell? ⟨bx, 0, none⟩ = some (.slice (some ⟨g, 0, none⟩) l.length cap) ∧ Bc ≤ w2.heap.size ∧ Below w.heap.size w w2) := fun w2 h2 => by
      have hb2 : w2.heap[bx]? = some (.cells #[.slice (some ⟨g, 0, none⟩) l.length cap] 37 (0, 0)) := (h2.block bx (Nat.lt_of_lt_of_le hbxw Hb0.out.size)).trans Hbx0.out
      exact ⟨HT.out.below h2 (Nat.le_refl _), HO0.out.below h2, hb2, by rw [cell_of_row w2 bx 0 _ _ (0, 0) hb2]; rfl, Nat.le_trans HBw0.out h2.size, bthen Hb0.out h2⟩
    have hne : Nonempty (BelowBy w0.heap.size w0) := ⟨⟨w0, Below.refl _ _⟩⟩
    have P0 : ∀ p : BelowBy w0.heap.size w0, p.x.cell? ⟨bx, 0, none⟩ = some (.slice (some ⟨g, 0, none⟩) l.length cap) := fun p => (p.h.cell (p := ⟨bx, 0, none⟩) (World.block_lt_of_cell? w0 _ Hc0.out)).trans Hc0.out
    have P1 : ∀ p : BelowBy w0.heap.size w0, p.x.cell? ⟨w.heap.size, 1, none⟩ = some (.string d.p.tb) := fun p => (HX.out.below p.h (by have := Hs0.out; omega)).ddl.2.1
    by_cases h2 : d.p.op = 2
    · have Hw0e : Hid (wrongE (l.map Tb.p) t.p d.p = 0) := by show _ = _; unfold wrongE; rw [if_pos h2]
      have HRe : Hid ((if d.p.op = 2 then (l.map Tb.p).eraseIdx k else (l.map Tb.p).set k (tableD t.p d.p)) = (l.map Tb.p).eraseIdx k) := if_pos h2
      rw [HRe.out, Hw0e.out]
      generalize hRR : (l.map Tb.p).eraseIdx k = RR
      have HRR := Lib.hid hRR
      have q2 : (d.p.op == 2) = true := by rw [beq_iff_eq]; exact h2
      clear hRR h2
      go_enter Tryz.func34, Tryz.ntmps34
      go_wp2_with fail
      rw [Hw0.out]
      refine wp_region_below w0.heap.size (by kernel_rfl) (by kernel_rfl) ?_
      repeat (
        with_reducible refine wpQuiet_step (fun K hK => ?_)
        go_simp
        refine hK _ ?_
        clear hK K)
      with_reducible refine wpQuiet_step (fun K hK => ?_)
      go_simp
      apply Exists.intro
      refine ⟨fun p => ?_, hK _ ?_⟩
      exact (HFd.out _ (HA0.out.to p.h)).mono fun e w5 ⟨he, hb⟩ => ⟨he, p.step (Nat.le_refl _) hb⟩
      clear hK K
      repeat (
        with_reducible refine wpQuiet_step (fun K hK => ?_)
        go_simp
        refine hK _ ?_
        clear hK K)
      refine wpQuiet_nil ?_
      rintro _ ⟨p, rfl⟩
      have Hb2 := Lib.hid p.h
      generalize p.x = w2 at Hb2 ⊢
      clear P0 P1 hne p c0 x0 x1 x2 x3 x4 x5 x6 x7 x8 x9 x10 x11
      obtain ⟨x0, x1, x2, x3, x4, x5, x6, x7, x8, x9, x10, x11⟩ := (HX.out.below Hb2.out (by have := Hs0.out; omega)).ddl
      obtain ⟨u1, u2, u3, c0, u5, u6⟩ := Hlater.out w2 Hb2.out
      have HU1 := Lib.hid u1
      have HU2 := Lib.hid u2
      have HU3 := Lib.hid u3
      have HU5 := Lib.hid u5
      have HU6 := Lib.hid u6
      have Hc2 := Lib.hid c0
      clear u1 u2 u3 u5 u6
      have Hdel := Lib.hid (tdel_any g cap k l w2 B HU2.out.row hkl (by omega))
      go_wp2_with fail
      refine Hdel.out.mono ?_
      rintro e w3 ⟨rfl, ho3, hof3⟩
      have HE := Lib.hid (HU2.out.drop hkl Hcapl.out ho3 hof3 Hbn.out HU3.out HRR.out)
      clear ho3 hof3
      have z0 := HE.out.1
      have z1 := HE.out.2.1
      go_wp2_with fail
      go_ret
      exact ⟨rfl, Off.behind HU6.out HE.out.2.2.1, fun _ => HE.out.2.2.2⟩
    have q2 : (d.p.op == 2) = false := by rw [beq_eq_false_iff_ne]; exact h2
    have HRe : Hid ((if d.p.op = 2 then (l.map Tb.p).eraseIdx k else (l.map Tb.p).set k (tableD t.p d.p)) = (l.map Tb.p).set k (tableD t.p d.p)) := if_neg h2
    rw [HRe.out]
    by_cases h3 : d.p.op = 3
    · have Hwe : Hid (wrongE (l.map Tb.p) t.p d.p = renE l d.p.to) := by show _ = _; unfold wrongE renE; rw [if_neg h2, if_pos h3, find_p]
      have Htd : Hid (tableD t.p d.p = ⟨t.id, d.p.to, t.key, t.nx, t.cols⟩) := by show _ = _; unfold tableD colsD; simp [h3]; exact ⟨rfl, rfl, rfl, rfl⟩
      rw [Hwe.out]
      have HrF := Lib.hid (fun w2 a1 a2 a3 => rename_any bx g cap k l t d.p.to w2 B a1 a2 Hk.out a3 (by omega) hto)
      generalize renE l d.p.to = F at HrF ⊢
      generalize hRR : (l.map Tb.p).set k (tableD t.p d.p) = RR
      have HRR := Lib.hid hRR
      have q3 : (d.p.op == 3) = true := by rw [beq_iff_eq]; exact h3
      clear hRR h2 h3
      go_enter Tryz.func34, Tryz.ntmps34
      go_wp2_with fail
      rw [Hw0.out]
      refine wp_region_below w0.heap.size (by kernel_rfl) (by kernel_rfl) ?_
      repeat (
        with_reducible refine wpQuiet_step (fun K hK => ?_)
        go_simp
        refine hK _ ?_
        clear hK K)
      with_reducible refine wpQuiet_step (fun K hK => ?_)
      go_simp
      apply Exists.intro
      refine ⟨fun p => ?_, hK _ ?_⟩
      exact (HFd.out _ (HA0.out.to p.h)).mono fun e w5 ⟨he, hb⟩ => ⟨he, p.step (Nat.le_refl _) hb⟩
      clear hK K
      repeat (
        with_reducible refine wpQuiet_step (fun K hK => ?_)
        go_simp
        refine hK _ ?_
        clear hK K)
      refine wpQuiet_nil ?_
      rintro _ ⟨p, rfl⟩
      have Hb2 := Lib.hid p.h
      generalize p.x = w2 at Hb2 ⊢
      clear P0 P1 hne p c0 x0 x1 x2 x3 x4 x5 x6 x7 x8 x9 x10 x11
      obtain ⟨x0, x1, x2, x3, x4, x5, x6, x7, x8, x9, x10, x11⟩ := (HX.out.below Hb2.out (by have := Hs0.out; omega)).ddl
      obtain ⟨u1, u2, u3, c0, u5, u6⟩ := Hlater.out w2 Hb2.out
      have HU1 := Lib.hid u1
      have HU2 := Lib.hid u2
      have HU3 := Lib.hid u3
      have HU5 := Lib.hid u5
      have HU6 := Lib.hid u6
      have Hc2 := Lib.hid c0
      clear u1 u2 u3 u5 u6
      have Hren := Lib.hid (HrF.out w2 HU2.out.row HU2.out.at Hc2.out)
      go_wp2_with fail
      refine Hren.out.mono ?_
      rintro e w3 ⟨rfl, hbad, hok⟩
      have Hbad := Lib.hid hbad
      have Hok := Lib.hid hok
      clear hbad hok
      go_wp2_with fail
      go_ret
      by_cases hF : F = 0
      · obtain ⟨h1, h2⟩ := Hok.out hF
        have h1' : Off (fun x => x = g ∨ colBk t = some x) w2 w3 := h1.mono fun x _ e => .inl e
        have hcl := (HU2.out.cols t Htm.out).off h1 (fun x hx e => by
          have := ((HU2.out.cols t Htm.out).lt x hx).1
          omega)
        refine ⟨rfl, Off.behind HU6.out ((in_cat Hk.out h1').mono fun x _ e => .inl e), fun _ => ?_⟩
        exact HU2.out.cat (t' := { t with nm := d.p.to }) Hk.out Hcapl.out h2 hcl h1' Hbn.out Hc2.out (by rw [← HRR.out, Htd.out]; rfl)
      · exact ⟨rfl, .of_below (bthen HU6.out (Hbad.out hF)), fun h => absurd h hF⟩
    have q3 : (d.p.op == 3) = false := by rw [beq_eq_false_iff_ne]; exact h3
    by_cases h4 : d.p.op = 4
    · have Hwe : Hid (wrongE (l.map Tb.p) t.p d.p = addE t.p d.p) := by show _ = _; unfold wrongE; rw [if_neg h2, if_neg h3, if_pos h4]
      have Htd : Hid (tableD t.p d.p = ⟨t.id, t.nm, t.key, t.nx + 1, t.cols ++ [{ d.p.col with id := t.nx }]⟩) := by show _ = _; unfold tableD colsD Dp.col; simp [h4]; exact ⟨rfl, rfl, rfl, rfl, rfl, rfl⟩
      rw [Hwe.out]
      have HaF := Lib.hid (fun w2 a1 a2 a3 a4 => add_any g cap k l t d w2 B Bc a1 a2 Hk.out a3 hgB a4 Hht.out.1 hco Hht.out.2.2.2 Hht.out.2.2.1)
      generalize addE t.p d.p = F at HaF ⊢
      generalize hRR : (l.map Tb.p).set k (tableD t.p d.p) = RR
      have HRR := Lib.hid hRR
      have q4 : (d.p.op == 4) = true := by rw [beq_iff_eq]; exact h4
      clear hRR h2 h3 h4
      go_enter Tryz.func34, Tryz.ntmps34
      go_wp2_with fail
      rw [Hw0.out]
      refine wp_region_below w0.heap.size (by kernel_rfl) (by kernel_rfl) ?_
      repeat (
        with_reducible refine wpQuiet_step (fun K hK => ?_)
        go_simp
        refine hK _ ?_
        clear hK K)
      with_reducible refine wpQuiet_step (fun K hK => ?_)
      go_simp
      apply Exists.intro
      refine ⟨fun p => ?_, hK _ ?_⟩
      exact (HFd.out _ (HA0.out.to p.h)).mono fun e w5 ⟨he, hb⟩ => ⟨he, p.step (Nat.le_refl _) hb⟩
      clear hK K
      repeat (
        with_reducible refine wpQuiet_step (fun K hK => ?_)
        go_simp
        refine hK _ ?_
        clear hK K)
      refine wpQuiet_nil ?_
      rintro _ ⟨p, rfl⟩
      have Hb2 := Lib.hid p.h
      generalize p.x = w2 at Hb2 ⊢
      clear P0 P1 hne p c0 x0 x1 x2 x3 x4 x5 x6 x7 x8 x9 x10 x11
      obtain ⟨x0, x1, x2, x3, x4, x5, x6, x7, x8, x9, x10, x11⟩ := (HX.out.below Hb2.out (by have := Hs0.out; omega)).ddl
      obtain ⟨u1, u2, u3, c0, u5, u6⟩ := Hlater.out w2 Hb2.out
      have HU1 := Lib.hid u1
      have HU2 := Lib.hid u2
      have HU3 := Lib.hid u3
      have HU5 := Lib.hid u5
      have HU6 := Lib.hid u6
      have Hc2 := Lib.hid c0
      clear u1 u2 u3 u5 u6
      have Hadd := Lib.hid (HaF.out w2.drew HU1.out.drew HU2.out.row (HU2.out.cols t Htm.out) HU5.out)
      go_wp2_with fail
      go_region_with (first
        | (go_at_call 55; refine Hadd.out.mono ?_; rintro e w3 ⟨rfl, hof, hok⟩; have Hof := Lib.hid hof; have Hok := Lib.hid hok; clear hof hok)
        | fail)
      all_goals
        go_wp2_with fail
        go_ret
        have hof2 : Off (fun x => x = g ∨ colBk t = some x) w2 w3 := (off_drew w2).trans Hof.out
        refine ⟨rfl, Off.behind HU6.out ((in_cat Hk.out hof2).mono fun x _ e => .inl e), fun hF => ?_⟩
        obtain ⟨A', cap', h1, h2⟩ := Hok.out hF
        refine HU2.out.cat (B2 := Bc) (t' := t.more A' cap' d.p.col) Hk.out Hcapl.out h1 ?_ hof2 Hbn.out Hc2.out (by rw [← HRR.out, Htd.out]; rfl)
        show OwnC w3 Bc (.slice A' (t.cols ++ [{ d.p.col with id := t.nx }]).length cap') _
        rw [List.length_append]; exact h2
    have q4 : (d.p.op == 4) = false := by rw [beq_eq_false_iff_ne]; exact h4
    have h58 : d.p.op = 5 ∨ d.p.op = 6 ∨ d.p.op = 7 ∨ d.p.op = 8 := by have := Hop.out; have := Hn1.out; omega
    generalize hRR : (l.map Tb.p).set k (tableD t.p d.p) = RR
    have HRR := Lib.hid hRR
    clear hRR h2 h3 h4
    have HCh := Lib.hid (fun w' ht' hO' hC' => chcol_any g cap k l t d w' B Bc ht' hO' Hk.out hC' hgB (by have := Hht.out.2.1; omega) Hht.out.1 hto (fun c hc => (Hrt.out.2.2.2.2.2.1 c hc).1) (H64.out t Htm.out) Hrt.out.2.2.2.2.2.2.1 (l.map Tb.p) h58)
    generalize wrongE (l.map Tb.p) t.p d.p = F at HCh ⊢
    clear h58
    go_enter Tryz.func34, Tryz.ntmps34
    go_wp2_with fail
    rw [Hw0.out]
    refine wp_region_below w0.heap.size (by kernel_rfl) (by kernel_rfl) ?_
    repeat (
      with_reducible refine wpQuiet_step (fun K hK => ?_)
      go_simp
      refine hK _ ?_
      clear hK K)
    with_reducible refine wpQuiet_step (fun K hK => ?_)
    go_simp
    apply Exists.intro
    refine ⟨fun p => ?_, hK _ ?_⟩
    exact (HFd.out _ (HA0.out.to p.h)).mono fun e w5 ⟨he, hb⟩ => ⟨he, p.step (Nat.le_refl _) hb⟩
    clear hK K
    repeat (
      with_reducible refine wpQuiet_step (fun K hK => ?_)
      go_simp
      refine hK _ ?_
      clear hK K)
    refine wpQuiet_nil ?_
    rintro _ ⟨p, rfl⟩
    have Hb2 := Lib.hid p.h
    generalize p.x = w2 at Hb2 ⊢
    clear P0 P1 hne p c0 x0 x1 x2 x3 x4 x5 x6 x7 x8 x9 x10 x11
    obtain ⟨x0, x1, x2, x3, x4, x5, x6, x7, x8, x9, x10, x11⟩ := (HX.out.below Hb2.out (by have := Hs0.out; omega)).ddl
    obtain ⟨u1, u2, u3, c0, u5, u6⟩ := Hlater.out w2 Hb2.out
    have HU1 := Lib.hid u1
    have HU2 := Lib.hid u2
    have HU3 := Lib.hid u3
    have HU5 := Lib.hid u5
    have HU6 := Lib.hid u6
    have Hc2 := Lib.hid c0
    clear u1 u2 u3 u5 u6
    have HCh2 := Lib.hid (HCh.out w2.drew HU1.out.drew HU2.out.row (HU2.out.cols t Htm.out))
    go_wp2_with fail
    go_region_with (first
      | (go_at_call 56; refine HCh2.out.mono ?_; rintro e w3 ⟨rfl, hof, hok⟩; have Hof := Lib.hid hof; have Hok := Lib.hid hok; clear hof hok)
      | fail)
    all_goals
      go_wp2_with fail
      go_ret
      have hof2 : Off (fun x => x = g ∨ colBk t = some x) w2 w3 := (off_drew w2).trans Hof.out
      refine ⟨rfl, Off.behind HU6.out ((in_cat Hk.out hof2).mono fun x _ e => .inl e), fun hF => ?_⟩
      obtain ⟨t', h0, h1, h2⟩ := Hok.out hF
      exact HU2.out.cat (t' := t') Hk.out Hcapl.out h1 h2 hof2 Hbn.out Hc2.out (by rw [← HRR.out, h0])
end Go.Proofs.YtlbdbaafmdikcaaGreatDoor
