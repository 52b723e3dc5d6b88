/- What the rows list of the program's tables gives the walks: the premise Env. -/
import Derived.Test.YtfbmjfdfbokfdaaDoorRows
import Derived.Test.YtfbmjfdfbokfdaaDoorTextB
import Derived.Lib.LaidU8T
import Derived.PinnedBridge
import Derived.LaidMore
namespace Go.Proofs.YtfbmjfdfbokfdaaDoor
open Go.RowKit Go.Lib

/-- What every row of this seat lists. -/
def laid3 : List (String × DataW Unit) := Rows.textValidRow.laid
theorem accept_eq : Rows.laid_unicode_utf8_acceptRanges (H := Unit) = acceptData := by kernel_rfl
theorem first_eq : Rows.laid_unicode_utf8_first = firstData := Pinned.utf8First_eq
/-- The listed table of folded forms is the chapter's. -/
theorem accents_eq : Rows.laid_library_text_accents (H := Unit) = .agg (accL.map fun x => .lit (.string (enc x))) := by kernel_rfl
theorem accents_type : (Tryd.prog.globals[0]?).map (·.type) = some 49 := by kernel_rfl
theorem cells_string : Tryd.prog.cellsOf 9 = 1 := by kernel_rfl

theorem env_of {W : World} (h : laidMet Tryd.prog laid3 W) : Env W := by
  have h1 := Lib.laidMet.reads h (.head _)
  have h2 := Lib.laidMet.reads h (.tail _ (.head _))
  have h3 := Lib.laidMet.reads h (.tail _ (.tail _ (.head _)))
  rw [accept_eq] at h1
  rw [accents_eq] at h2
  rw [first_eq] at h3
  have htab : Lib.Utf8Tabs 1 2 W :=
    utf8Tabs_of_readsT (U8Types.of196 Tryd.lays196) ⟨by kernel_rfl, by kernel_rfl, by kernel_rfl, by kernel_rfl, by kernel_rfl, by kernel_rfl, by kernel_rfl⟩ h3 h1
  refine ⟨?_, htab, fun i hi => ?_⟩
  · have hc := (htab.2 0 (by decide)).1
    have hc1 := htab.1 0 (by decide)
    have key : ∀ b o v, W.cell? ⟨b, o, none⟩ = some v → b < W.heap.size := by
      intro b o v hv
      rcases Nat.lt_or_ge b W.heap.size with hh | hh
      · exact hh
      · simp [World.cell?, Array.getElem?_eq_none hh] at hv
    have k1 := key _ _ _ hc
    have k2 := key _ _ _ hc1
    omega
  · obtain ⟨g, t, cs, fuel, p, hg, hty, hvar, hd⟩ := h2
    obtain rfl : g = 0 := Option.some.inj (hg.symm.trans (show _ = some 0 by kernel_rfl))
    obtain rfl := Option.some.inj (accents_type.symm.trans hty)
    obtain ⟨fuel', d, q, hdi, he⟩ := array_elem Tryd.underlying49 hd i hi
    rw [cells_string] at he
    have hl : i < accL.length := hi
    rw [List.getElem?_map, List.getElem?_eq_getElem hl] at hdi
    simp only [Option.map_some, Option.some.injEq] at hdi
    obtain ⟨s, e1, e2, _⟩ := DataW.trod_string Tryd.underlying9 he
    rw [← hdi] at e2
    simp only [Prod.mk.injEq, DataW.lit.injEq, Lit.string.injEq] at e2
    have es : s = T accL[i] := eq_T e2.1.symm
    have e0 := congrArg (·[0]?) e1
    simp only [List.getElem?_take, List.getElem?_drop] at e0
    rw [World.var?_cell hg hvar i, ← Array.getElem?_toList]
    simp only [Nat.mul_one, Nat.add_zero] at e0
    rw [show accL.getD i [] = accL[i] by simp [List.getD, hl]]
    rw [← es]
    simpa using e0
theorem env_ofH {W : World} (h : laidMetH Tryd.prog laid3 W) : Env W := by
  rw [MakeChecks.laidMetH_plain _ _ _ (by kernel_rfl)] at h
  exact env_of h
end Go.Proofs.YtfbmjfdfbokfdaaDoor
