/- Merged: EnvTab. -/
import Derived.Test.YtmcolapcmjdoeaaGreatDoorRows
import Derived.Test.YtmcolapcmjdoeaaGreatDoorQ25
import Derived.Test.YtmcolapcmjdoeaaGreatDoorQ41
import Derived.Test.YtmcolapcmjdoeaaGreatDoorQ42
import Derived.Shelf.Vars
import Derived.Lib.LaidU8T
import Derived.Lib.LaidU8
import Derived.PinnedBridge
import Derived.LaidMore
import Derived.LaidLaws
namespace Go.Proofs.YtmcolapcmjdoeaaGreatDoor

section
open Go.RowKit Go.Lib
/-- What every row of this seat lists. -/
def laid3 : List (String × DataW Unit) := [("unicode/utf8.acceptRanges", Rows.laid_unicode_utf8_acceptRanges), ("library/text.accents", Rows.laid_library_text_accents), ("unicode/utf8.first", Rows.laid_unicode_utf8_first)]
/-- The listed table of folded forms is the chapter's. -/
theorem accents_eq : Rows.laid_library_text_accents (H := Unit) = .agg (accL.map fun x => .lit (.string (enc x))) := by kernel_rfl
theorem accents_type : (Tryz.prog.globals[0]?).map (·.type) = some 125 := by kernel_rfl

theorem acc_of {W : World} (h : laidMet Tryz.prog laid3 W) : Acc W := by
  have h2 := Lib.laidMet.reads h (.tail _ (.head _))
  rw [accents_eq] at h2
  have hcells : ∀ i, i < 64 → W.cell? ⟨0, i, none⟩ = some (.string (T (accL.getD i []))) := by
    intro i hi
    obtain ⟨g, t, cs, fuel, p, hg, hty, hvar, hd⟩ := h2
    obtain rfl : g = 0 := Option.some.inj (hg.symm.trans (show _ = some 0 by kernel_rfl))
    obtain rfl := Option.some.inj (accents_type.symm.trans hty)
    obtain ⟨fuel', d, q, hdi, he⟩ := array_elem Tryz.underlying125 hd i hi
    rw [cells_string] at he
    have hl : i < accL.length := hi
    rw [List.getElem?_map, List.getElem?_eq_getElem hl] at hdi
    simp only [Option.map_some, Option.some.injEq] at hdi
    obtain ⟨s, e1, e2, _⟩ := DataW.trod_string Tryz.underlying9 he
    rw [← hdi] at e2
    simp only [Prod.mk.injEq, DataW.lit.injEq, Lit.string.injEq] at e2
    have es : s = T accL[i] := eq_T e2.1.symm
    have e0 := congrArg (·[0]?) e1
    simp only [List.getElem?_take, List.getElem?_drop] at e0
    rw [World.var?_cell hg hvar i, ← Array.getElem?_toList]
    simp only [Nat.mul_one, Nat.add_zero] at e0
    rw [show accL.getD i [] = accL[i] by simp [List.getD, hl]]
    rw [← es]
    simpa using e0
  refine ⟨?_, hcells⟩
  have hc := hcells 0 (by decide)
  rcases Nat.lt_or_ge 0 W.heap.size with hh | hh
  · exact hh
  · simp [World.cell?, Array.getElem?_eq_none hh] at hc
theorem accept_eq : Rows.laid_unicode_utf8_acceptRanges (H := Unit) = acceptData := by kernel_rfl
theorem first_eq : Rows.laid_unicode_utf8_first = firstData := Pinned.utf8First_eq
theorem key_lt {W : World} {b o : Nat} {v : Value} (hv : W.cell? ⟨b, o, none⟩ = some v) : b < W.heap.size := by
  rcases Nat.lt_or_ge b W.heap.size with hh | hh
  · exact hh
  · simp [World.cell?, Array.getElem?_eq_none hh] at hv
theorem env_of {W : World} (h : laidMet Tryz.prog laid3 W) (hs : W.ShapedOpen Tryz.prog) : Env W := by
  have r4 := Lib.laidMet.reads h (.head _)
  have r7 := Lib.laidMet.reads h (.tail _ (.tail _ (.head _)))
  rw [accept_eq] at r4
  rw [first_eq] at r7
  have htab : Lib.Utf8Tabs 1 2 W :=
    utf8Tabs_of_readsT (U8Types.of196 Tryz.lays196) ⟨by kernel_rfl, by kernel_rfl, by kernel_rfl, by kernel_rfl, by kernel_rfl, by kernel_rfl, by kernel_rfl⟩ r7 r4
  exact ⟨⟨⟨key_lt (htab.1 0 (by decide)), key_lt (htab.2 0 (by decide)).1⟩, htab⟩, acc_of h,
    cell_of_shapedOpen_int (P := Tryz.prog) (g := 3) (t := 3) (zero := #[.int .i64 0]) hs (of_decide_eq_true (by kernel_rfl)) (by kernel_rfl) rfl (by kernel_rfl) (by kernel_rfl) Tryz.underlying3⟩
theorem env_ofH {W : World} (h : laidMetH Tryz.prog laid3 W) (hs : W.ShapedOpen Tryz.prog) : Env W := by
  rw [MakeChecks.laidMetH_plain _ _ _ (by kernel_rfl)] at h
  exact env_of h hs
end

end Go.Proofs.YtmcolapcmjdoeaaGreatDoor
