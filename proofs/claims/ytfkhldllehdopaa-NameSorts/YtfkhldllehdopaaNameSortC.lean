/-
  Contracts of package name's Sorted, over the library's own contracts of slices.Clone, slices.SortFunc and slices.Compact.
-/
import Derived.Test.YtfkhldllehdopaaNameOrdC
import Derived.Test.YtfkhldllehdopaaNameSortMath
import Derived.Test.YtfkhldllehdopaaStrRows
import Derived.Test.YtfkhldllehdopaaShSort
import Derived.Lib.OwnBridge
namespace Go.Proofs.Ytfkhldllehdopaa
open Go.RowKit

theorem clone_any (A : Option Addr) (c : Nat) (zs : List ByteArray) (w : World) (hA : StrsAt w w.heap.size A zs) (hl : zs.length ≤ 1000000) :
    Calls Try.prog 30 #[.slice A zs.length c] w fun e w' => ∃ v, e = .returned v ∧ OwnS w' w.heap.size v zs ∧ Below w.heap.size w w' := by
  cases A with
  | none =>
    obtain rfl : zs = [] := by
      cases zs with
      | nil => rfl
      | cons y r => obtain ⟨_, _, h3, _⟩ := hA (by simp); cases h3
    refine (Any.slices_Clone_string_nil lay_Lays2_n16 0 c w).mono ?_
    rintro e w' ⟨rfl, rfl⟩
    exact ⟨_, rfl, OwnS.nil _ _, Below.refl _ _⟩
  | some a =>
    by_cases h0 : zs.length = 0
    · obtain rfl : zs = [] := List.eq_nil_of_length_eq_zero h0
      refine (Any.slices_Clone_string_zero lay_Lays2_n16 a c w).mono ?_
      rintro e w' ⟨v, rfl, h1, _, h3⟩
      exact ⟨_, rfl, h1, h3⟩
    · obtain ⟨b, off, h1, h2, h3⟩ := hA (by omega)
      cases h1
      refine (Any.slices_Clone_string lay_Lays2_n16 b off zs.length c zs w (Nat.le_refl _) (by omega) (fun j hj => ?_)).mono ?_
      · rw [h3 j hj, List.getD_eq_getElem?_getD, List.getElem?_eq_getElem hj]; rfl
      · rintro e w' ⟨v, rfl, h4, _, h5⟩
        rw [List.take_length] at h4
        exact ⟨_, rfl, h4, h5⟩

/-- a string as the sort sees it -/
def encM (l : List UInt8) : Value := .string ⟨(l.take 1000000).toArray⟩
def cfM (x y : List UInt8) : Int := ordN (x.take 1000000) (y.take 1000000)
theorem ltM_true {x y : List UInt8} : ltOf cfM x y = true ↔ ordN (x.take 1000000) (y.take 1000000) < 0 := ⟨fun h => of_decide_eq_true h, fun h => decide_eq_true h⟩
theorem ltM_false {x y : List UInt8} : ltOf cfM x y = false ↔ ¬ ordN (x.take 1000000) (y.take 1000000) < 0 := ⟨fun h => of_decide_eq_false h, fun h => decide_eq_false h⟩
theorem swoM : Sort.SWO (ltOf cfM) where
  irrefl := fun x => ltM_false.2 (by rw [ordN_self]; decide)
  trans := fun x y z h1 h2 => ltM_true.2 (ordN_trans (ltM_true.1 h1) (ltM_true.1 h2))
  ntrans := fun x y z h1 h2 => ltM_false.2 fun h3 => by
    have h1 := ltM_false.1 h1
    have h2 := ltM_false.1 h2
    have e1 := ordN_turn (x.take 1000000) (y.take 1000000)
    by_cases hy : ordN (x.take 1000000) (y.take 1000000) = 0
    · rw [ordN_zero hy] at h3; exact h2 h3
    · have h4 : ordN (y.take 1000000) (x.take 1000000) < 0 := by omega
      exact h2 (ordN_trans h4 h3)
theorem cmpM (blk off size : Nat) (w : World) : CmpReads Try.prog 13 #[] encM cfM blk off size w := fun m os dk _ x y => by
  have h := order_any ⟨(x.take 1000000).toArray⟩ ⟨(y.take 1000000).toArray⟩ (sortWorld encM w blk off m dk os) (by rw [ba_size]; exact List.length_take_le _ _) (by rw [ba_size]; exact List.length_take_le _ _)
  exact h

theorem compact_len (ys : List (List UInt8)) : (Lib.compact ys).length ≤ ys.length := by
  unfold Lib.compact Lib.compactUpTo
  rw [List.length_map]
  exact Nat.le_trans (List.length_filter_le _ _) (by simp)

theorem below_grow0 {B : Nat} {a w : World} (h : Below B a w) (hB : B ≤ w.heap.size) (os : Array Obj) : Below B a (Sort.grow w os) :=
  ⟨h.os, h.tape, h.output, by show _ ≤ (w.heap ++ os).size; rw [Array.size_append]; exact Nat.le_trans h.size (Nat.le_add_right _ _), fun k hk => by
    show (w.heap ++ os)[k]? = _
    rw [Array.getElem?_append_left (by omega)]; exact h.block k hk⟩

theorem perm_all {d d' : Array (List UInt8)} (h : Sort.PermIn 0 d.size d d') : d'.toList.Perm d.toList := by
  obtain ⟨h1, _, h3⟩ := h
  have e1 : d'.extract 0 d.size = d' := by rw [← h1]; simp
  have e2 : d.extract 0 d.size = d := by simp
  rwa [e1, e2] at h3
theorem take_small {l : List UInt8} (h : l.length ≤ 1000000) : l.take 1000000 = l := List.take_of_length_le h

/-- what the row holds behind the sort -/
theorem sort_any (g cap : Nat) (zs : List ByteArray) (w : World) (B : Nat) (hB : B ≤ g) (hg : g < w.heap.size) (hc : ∀ j (hj : j < zs.length), w.cell? ⟨g, j, none⟩ = some (.string zs[j])) (hf : ∀ j, w.frozen? ⟨g, j, none⟩ = false)
    (hl : zs.length ≤ 1000000) (hz : ∀ z ∈ zs, z.size ≤ 1000000) :
    Calls Try.prog 31 #[.slice (some ⟨g, 0, none⟩) zs.length cap, .func (.func 13) #[] #[]] w fun e w' => e = .returned (.tuple #[]) ∧
      ∃ ys : List (List UInt8), ys.length = zs.length ∧ Sort.Holds encStr w' g 0 ys.toArray ∧ (∀ i j, i < j → j < ys.length → ¬ ordN ys.toArray[j]! ys.toArray[i]! < 0) ∧ (∀ x, x ∈ ys ↔ (⟨x.toArray⟩ : ByteArray) ∈ zs) ∧ Below B w w' ∧ g < w'.heap.size := by
  have hd : ((zs.map bs).toArray).size = zs.length := by simp
  have hH : Sort.Holds encM w g 0 (zs.map bs).toArray := fun j hj => by
    have hj' : j < zs.length := by simpa using hj
    rw [Nat.zero_add]
    refine ⟨?_, hf j⟩
    rw [hc j hj', getElem!_pos _ j hj]
    have hs := hz zs[j] (List.getElem_mem hj')
    simp only [List.getElem_toArray, List.getElem_map]
    show some (Value.string zs[j]) = some (encM (bs zs[j]))
    unfold encM
    rw [take_small (by rw [bs_length]; exact hs)]
    rfl
  have eg : ∀ args w, (callFunc 13 args).run Try.prog w = .ok (.enter 13 args) w := enters_of Try.func13 (by kernel_rfl) rfl
  have h := Any.slices_SortFunc lay_SlLaysF_n6 encM (fun _ => rfl) cfM swoM 13 #[] g 0 cap (zs.map bs).toArray w eg (cmpM g 0 _ w).lays hH hg (by rw [hd]; omega)
  rw [hd] at h
  refine Calls.mono h ?_
  rintro e w' ⟨rfl, d', n, os, h1, h2, rfl⟩
  refine ⟨rfl, d'.toList, ?_⟩
  have hp := perm_all (by rw [hd]; exact h1)
  have hlen : d'.toList.length = zs.length := by rw [hp.length_eq]; simp
  have hsm : ∀ y ∈ d'.toList, y.length ≤ 1000000 := fun y hy => by
    have := hp.mem_iff.1 hy
    simp at this
    obtain ⟨z, hz1, rfl⟩ := this
    rw [bs_length]; exact hz z hz1
  have hsm2 : ∀ j, j < d'.size → (d'[j]!).length ≤ 1000000 := fun j hj => by
    rw [getElem!_pos _ j hj]; exact hsm _ (by simp)
  have hds : d'.size = zs.length := by rw [← hlen]; simp
  refine ⟨hlen, ?_, ?_, ?_, ?_, ?_⟩
  · have hh := holds_sortWorld encM w g 0 n (zs.map bs).toArray d' os hg hH (by rw [hd, hds])
    intro j hj
    simp only [Array.toArray_toList] at hj ⊢
    have := hh j hj
    rw [show encM d'[j]! = encStr d'[j]! by unfold encM; rw [take_small (hsm2 j hj)]] at this
    exact this
  · intro i j hij hj
    simp only [Array.toArray_toList]
    have := ltM_false.1 (h2 i j (by omega) hij (by omega))
    rwa [take_small (hsm2 j (by omega)), take_small (hsm2 i (by omega))] at this
  · intro x
    rw [hp.mem_iff]
    simp only [List.mem_map]
    constructor
    · rintro ⟨z, hz1, rfl⟩; exact hz1
    · intro hx; exact ⟨_, hx, rfl⟩
  · unfold sortWorld
    exact below_grow0 (Lib.below_putRow (Below.refl B w) hB) (by rw [size_putRow]; show B ≤ w.heap.size; omega) os
  · unfold sortWorld
    show g < (_ ++ os).size
    rw [Array.size_append]
    have : (Sort.putRow encM (Sort.ahead w n) g 0 d').heap.size = w.heap.size := size_putRow _ _ _ _ _
    omega

theorem compact_any (g cap : Nat) (ys : List (List UInt8)) (zs : List ByteArray) (w : World) (B : Nat) (hB : B ≤ g) (hg : g < w.heap.size) (hcap : ys.length ≤ cap) (hl : ys.length ≤ 1000000)
    (hH : Sort.Holds encStr w g 0 ys.toArray) (hs : ∀ i j, i < j → j < ys.length → ¬ ordN ys.toArray[j]! ys.toArray[i]! < 0) (hm : ∀ x, x ∈ ys ↔ (⟨x.toArray⟩ : ByteArray) ∈ zs) :
    Calls Try.prog 32 #[.slice (some ⟨g, 0, none⟩) ys.length cap] w fun e w' => ∃ l, e = .returned (.slice (some ⟨g, 0, none⟩) l.length cap) ∧ l.length ≤ ys.length ∧ Srt zs l ∧ StrsAt w' w'.heap.size (some ⟨g, 0, none⟩) l ∧ Below B w w' := by
  refine (Any.slices_Compact_string lay_Lays_n194 g 0 cap ys w hH (by omega) hcap).mono ?_
  rintro e w' ⟨rfl, q, rfl⟩
  have hle := compact_len ys
  have hlen : (baL (Lib.compact ys)).length = (Lib.compact ys).length := by simp [baL]
  refine ⟨baL (Lib.compact ys), by rw [hlen], by rw [hlen]; exact hle, compact_srt ys zs hs hm, fun _ => ⟨g, 0, rfl, ?_, fun j hj => ?_⟩, Lib.below_putRow (Below.refl B w) hB⟩
  · rw [size_putRow]; exact hg
  · rw [hlen] at hj
    have hh := Sort.holds_putRow encStr (Sort.ahead w q) g 0 ys.toArray (Lib.compact ys ++ List.replicate (ys.length - (Lib.compact ys).length) []).toArray hH (by simp; omega) j (by simp; omega)
    rw [hh.1, getElem!_pos _ j (by simp; omega)]
    simp only [List.getElem_toArray, baL, List.getElem_map]
    rw [List.getElem_append_left hj]

/-- how Sorted ends -/
def SortedV (zs : List ByteArray) (w : World) (e : Ending) (w' : World) : Prop := ∃ A c l, e = .returned (.slice A l.length c) ∧ l.length ≤ zs.length ∧ Srt zs l ∧ StrsAt w' w'.heap.size A l ∧ Below w.heap.size w w'
theorem srt_nil : Srt [] [] := ⟨List.Pairwise.nil, fun _ => Iff.rfl⟩

set_option maxRecDepth 100000 in
set_option maxHeartbeats 800000 in
theorem sorted_any (A : Option Addr) (c : Nat) (zs : List ByteArray) (w : World) (hA : StrsAt w w.heap.size A zs) (hl : zs.length ≤ 1000000) (hz : ∀ z ∈ zs, z.size ≤ 1000000) :
    Calls Try.prog 16 #[.slice A zs.length c] w fun e w' => SortedV zs w e w' := by
  have HC := Lib.hid (clone_any A c zs w hA hl)
  clear hA
  go_enter Try.func16, Try.ntmps16
  go_wp2_with fail
  refine HC.out.mono ?_
  rintro e w1 ⟨v, rfl, ho, hb1⟩
  by_cases h0 : zs.length = 0
  · obtain rfl : zs = [] := List.eq_nil_of_length_eq_zero h0
    obtain ⟨A', c', rfl⟩ : ∃ A' c', v = .slice A' 0 c' := by
      rcases ho.form with ⟨rfl, _⟩ | ⟨g, cap, rfl, _⟩
      · exact ⟨_, _, rfl⟩
      · exact ⟨_, _, rfl⟩
    clear ho HC
    go_wp2_with fail
    refine (AnyF.slices_SortFunc_none lay_SlLaysF0_n6 A' c' _ w1).mono ?_
    rintro e w2 ⟨rfl, rfl⟩
    go_wp2_with fail
    refine (Any.slices_Compact_string_empty lay_Lays_n194 A' c' _).mono ?_
    rintro e w3 ⟨rfl, rfl⟩
    go_wp2
    go_ret
    exact ⟨A', c', [], rfl, Nat.le_refl _, srt_nil, fun h => absurd h (by simp), hb1⟩
  · rcases ho.form with ⟨_, rfl⟩ | ⟨g, cap, rfl, hg1, hg2, hcap, hcells⟩
    · exact absurd rfl h0
    · have HS := Lib.hid (sort_any g cap zs w1 w.heap.size hg1 hg2 hcells (fun j => World.ownsRow.frozenAt ho j) hl hz)
      clear ho HC hcells
      go_wp2_with fail
      refine HS.out.mono ?_
      rintro e w2 ⟨rfl, ys, hlen, hH, hsr, hm, hb2, hg3⟩
      have HK := Lib.hid (compact_any g cap ys zs w2 w.heap.size hg1 hg3 (by omega) (by omega) hH (fun i j a b => by have := hsr i j a b; omega) hm)
      rw [hlen] at HK
      clear hH hsr hm HS
      go_wp2_with fail
      refine HK.out.mono ?_
      rintro e w3 ⟨l, rfl, hll, hS, hat, hb3⟩
      have HF : Hid (SortedV zs w (.returned (.slice (some ⟨g, 0, none⟩) l.length cap)) w3) := ⟨_, _, l, rfl, by omega, hS, hat, (hb1.trans hb2).trans hb3⟩
      clear hS hat
      go_wp2
      go_ret
      exact HF.out
end Go.Proofs.Ytfkhldllehdopaa
