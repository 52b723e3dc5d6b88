/- What the rows list of the program's tables gives the walks: the premise Acc on the table of folded forms. -/
import Derived.Test.YtjfeckccmfbkhaaDoorRows
import Derived.Test.YtjfeckccmfbkhaaDoorAcc
import Derived.Lib.LaidU8
import Derived.LaidMore
namespace Go.Proofs.YtjfeckccmfbkhaaDoor
open Go.RowKit Go.Lib

/-- What every row of this seat lists. -/
def laid3 : List (String × DataW Unit) := [("unicode/utf8.acceptRanges", Rows.laid_unicode_utf8_acceptRanges), ("library/text.accents", Rows.laid_library_text_accents), ("unicode/utf8.first", Rows.laid_unicode_utf8_first)]
/-- The listed table of folded forms is the chapter's. -/
theorem accents_eq : Rows.laid_library_text_accents (H := Unit) = .agg (accL.map fun x => .lit (.string (enc x))) := by kernel_rfl
theorem accents_type : (Tryd.prog.globals[0]?).map (·.type) = some 71 := by kernel_rfl
theorem cells_string : Tryd.prog.cellsOf 9 = 1 := by kernel_rfl

theorem env_of {W : World} (h : laidMet Tryd.prog laid3 W) : Acc W := by
  have h2 := Lib.laidMet.reads h (.tail _ (.head _))
  rw [accents_eq] at h2
  have hcells : ∀ i, i < 64 → W.cell? ⟨0, i, none⟩ = some (.string (T (accL.getD i []))) := by
    intro i hi
    obtain ⟨g, t, cs, fuel, p, hg, hty, hvar, hd⟩ := h2
    obtain rfl : g = 0 := Option.some.inj (hg.symm.trans (show _ = some 0 by kernel_rfl))
    obtain rfl := Option.some.inj (accents_type.symm.trans hty)
    obtain ⟨fuel', d, q, hdi, he⟩ := array_elem Tryd.underlying71 hd i hi
    rw [cells_string] at he
    have hl : i < accL.length := hi
    rw [List.getElem?_map, List.getElem?_eq_getElem hl] at hdi
    simp only [Option.map_some, Option.some.injEq] at hdi
    obtain ⟨s, e1, e2, _⟩ := DataW.trod_string Tryd.underlying9 he
    rw [← hdi] at e2
    simp only [Prod.mk.injEq, DataW.lit.injEq, Lit.string.injEq] at e2
    have es : s = T accL[i] := eq_T e2.1.symm
    have e0 := congrArg (·[0]?) e1
    simp only [List.getElem?_take, List.getElem?_drop] at e0
    rw [World.var?_cell hg hvar i, ← Array.getElem?_toList]
    simp only [Nat.mul_one, Nat.add_zero] at e0
    rw [show accL.getD i [] = accL[i] by simp [List.getD, hl]]
    rw [← es]
    simpa using e0
  refine ⟨?_, hcells⟩
  have hc := hcells 0 (by decide)
  rcases Nat.lt_or_ge 0 W.heap.size with hh | hh
  · exact hh
  · simp [World.cell?, Array.getElem?_eq_none hh] at hc
theorem env_ofH {W : World} (h : laidMetH Tryd.prog laid3 W) : Acc W := by
  rw [MakeChecks.laidMetH_plain _ _ _ (by kernel_rfl)] at h
  exact env_of h
end Go.Proofs.YtjfeckccmfbkhaaDoor
