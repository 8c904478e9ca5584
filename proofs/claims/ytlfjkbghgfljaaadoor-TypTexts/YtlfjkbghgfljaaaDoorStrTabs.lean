/-
  Tables of strings at package level: out of the row's condition.
-/
import Derived.Test.YtlfjkbghgfljaaaDoorTabs
import Derived.Test.YtlfjkbghgfljaaaDoorTypTextMath
import Derived.Test.YtlfjkbghgfljaaaDoorStrs
namespace Go.Proofs.YtlfjkbghgfljaaaDoor
open Go.RowKit

/-- cell i of an array of strings that reads as a list of strings -/
theorem str_cells {P : Program} {w : World} {base : Nat} {sp : Nat → Bool} {held : Bool} {fuel : Nat} {t e : TypeId} {n : Nat} {cs : List Value} {ds : List (DataW Unit)} {p : List MemPlace} {enc : TypeId × Value → Unit}
    (ht : P.underlying t = some (.array n e)) (he : P.underlying e = some .string) (hce : P.cellsOf e = 1) (hct : P.cellsOf t = n)
    (h : DataW.trod enc P w base sp held fuel t cs = some (.agg ds, p)) (i : Nat) (hi : i < n) : ∃ s : ByteArray, cs[i]? = some (.string s) ∧ ds[i]? = some (.lit (.string (bs s))) := by
  cases fuel with
  | zero => simp [DataW.trod] at h
  | succ f =>
    simp only [DataW.trod, ht, hce, hct, Nat.mul_one] at h
    split at h
    · obtain ⟨xs, hm, hx⟩ := Option.map_eq_some_iff.1 h
      have hxs : xs.map (·.1) = ds := by
        have := congrArg Prod.fst hx
        simpa using this
      obtain ⟨b, hb, hf⟩ := Lib.mapM_at hm i i (by simp [hi])
      obtain ⟨s, hc, rfl, _⟩ := DataW.trod_string he hf
      refine ⟨s, ?_, ?_⟩
      · have := congrArg (·[0]?) hc
        simpa [List.getElem?_take, List.getElem?_drop] using this
      · rw [← hxs, List.getElem?_map, hb]; rfl
    · cases h
theorem strtab_of_mem {P : Program} {W : World} {name : String} {ds : List (DataW Unit)} {g : Nat} {t e : TypeId} {n : Nat}
    (hg : P.globalNamed name = some g) (hty : (P.globals[g]?).map (·.type) = some t) (ht : P.underlying t = some (.array n e)) (he : P.underlying e = some .string) (hce : P.cellsOf e = 1) (hct : P.cellsOf t = n) :
    ∀ {l : List (String × DataW Unit)}, (name, DataW.agg ds) ∈ l → laidMet P l W → ∀ i, i < n → ∃ s : ByteArray, W.cell? ⟨g, i, none⟩ = some (.string s) ∧ ds[i]? = some (.lit (.string (bs s)))
  | x :: rest, hm, h, i, hi => by
    rcases List.mem_cons.1 hm with rfl | hm
    · obtain ⟨ps, ⟨g', t', cs, fuel, p, q, hg', ht', hvar, hd, _, _⟩, _⟩ := h
      obtain rfl := Option.some.inj (hg.symm.trans hg')
      obtain rfl := Option.some.inj (hty.symm.trans ht')
      obtain ⟨s, h1, h2⟩ := str_cells ht he hce hct hd i hi
      refine ⟨s, ?_, h2⟩
      have := World.var?_cell hg hvar i
      rw [this]
      simpa using h1
    · exact strtab_of_mem hg hty ht he hce hct hm (laidMet_tail h) i hi

/-- the names of the kinds, as the program has them -/
def kname (i : Nat) : ByteArray := match i with | 1 => ⟨#[105, 110, 116]⟩ | 2 => ⟨#[108, 111, 110, 103]⟩ | 3 => ⟨#[116, 101, 120, 116]⟩ | 4 => ⟨#[98, 121, 116, 101, 115]⟩ | _ => ⟨#[]⟩
def KTab (w : World) : Prop := ∀ i : Nat, i < 5 → w.cell? ⟨0, i, none⟩ = some (.string (kname i))
theorem KTab.pos {w : World} (h : KTab w) : 0 < w.heap.size := World.block_lt_of_cell? w ⟨0, 0, none⟩ (h 0 (by omega))
theorem KTab.below {w w' : World} {B : Nat} (h : KTab w) (hb : Below B w w') (hB : w.heap.size ≤ B) : KTab w' := fun i hi => (hb.cell (p := ⟨0, i, none⟩) (Nat.lt_of_lt_of_le h.pos hB)).trans (h i hi)
theorem KTab.alloc {w : World} (h : KTab w) (o : Obj) : KTab (w.alloc o) := h.below ((Below.refl _ _).alloc (Nat.le_refl _) o) (Nat.le_refl _)
theorem ktab_of {W : World} {l : List (String × DataW Unit)} (hl : (l.filter fun x => x.2.handleName?.isSome) = []) (h1 : ("haulage/typ.kindNames", Rows.laid_haulage_typ_kindNames) ∈ l) (h : laidMetH Tryd.prog l W) : KTab W := by
  have h' : laidMet Tryd.prog l W := by
    unfold laidMetH at h
    rw [hl] at h
    exact h
  intro i hi
  obtain ⟨s, hs, hd⟩ := strtab_of_mem (g := 0) (t := 67) (e := 9) (n := 5) (by kernel_rfl) (by kernel_rfl) Tryd.underlying67 Tryd.underlying9 (by kernel_rfl) (by kernel_rfl) h1 h' i hi
  rw [hs]
  have : s = kname i := by
    apply bs_eq
    have inj : ∀ x y : List UInt8, (some (DataW.lit (.string x)) : Option (DataW Unit)) = some (.lit (.string y)) → y = x := fun x y h => by simpa using h.symm
    match i, hi with
    | 0, _ => exact inj [] _ hd
    | 1, _ => exact inj [105, 110, 116] _ hd
    | 2, _ => exact inj [108, 111, 110, 103] _ hd
    | 3, _ => exact inj [116, 101, 120, 116] _ hd
    | 4, _ => exact inj [98, 121, 116, 101, 115] _ hd
  rw [this]
end Go.Proofs.YtlfjkbghgfljaaaDoor
