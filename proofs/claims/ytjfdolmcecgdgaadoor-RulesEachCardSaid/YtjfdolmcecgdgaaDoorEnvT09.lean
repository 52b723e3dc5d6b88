/- What the rows list of the program's variables gives the walks: the standard rules lie in their array. -/
import Derived.Test.YtjfdolmcecgdgaaDoorRows
import Derived.Test.YtjfdolmcecgdgaaDoorArgsT
import Derived.Test.YtjfdolmcecgdgaaDoorArgsR
import Derived.Shelf.Vars
import Derived.Lib.LaidU8T
import Derived.PinnedBridge
import Derived.LaidMore
import Derived.LaidLaws
namespace Go.Proofs.YtjfdolmcecgdgaaDoor
open Go.RowKit Go.Lib

/-- What every row of this seat lists. -/
def laid3 : List (String × DataW Unit) := Rows.rulesFindRow.laid
theorem std_eq : Rows.laid_library_rules_standard (H := Unit) = .agg (stdL.map dataT) := by kernel_rfl
theorem dataT_inj {H : Type} {a b : Rul} (h : (dataT a : DataW H) = dataT b) : a = b := by
  cases a; cases b
  simp only [dataT, DataW.agg.injEq, List.cons.injEq, DataW.lit.injEq, Lit.string.injEq, Lit.bool.injEq, Lit.int.injEq, and_true, true_and] at h
  obtain ⟨h1, h2, h3, h4, h5, h6, h7⟩ := h
  simp only [Rul.mk.injEq]
  exact ⟨h1, h2, h3, h4, h5, h6, h7⟩
theorem cells_pieces : ∀ (L : List Rul) (cs : List Value), cs.length = L.length * 7 → (∀ i, i < L.length → (cs.drop (i * 7)).take 7 = [.string (S (L.getD i rul0).tag), .bool (L.getD i rul0).rep, .bool (L.getD i rul0).must, .string (S (L.getD i rul0).codes), .string (S (L.getD i rul0).once), .string (S (L.getD i rul0).needs), .int .i64 (L.getD i rul0).auth]) → cs = cellsT L
  | [], cs, hl, _ => List.eq_nil_of_length_eq_zero (by simpa using hl)
  | t :: s, cs, hl, h => by
    have h0 := h 0 (by simp)
    have hr := cells_pieces s (cs.drop 7) (by rw [List.length_drop, hl, List.length_cons]; omega) (fun i hi => by
      have := h (i + 1) (by simpa using hi)
      rw [show (i + 1) * 7 = 7 + i * 7 by omega, ← List.drop_drop] at this
      exact this)
    have e : cs = cs.take 7 ++ cs.drop 7 := (List.take_append_drop 7 cs).symm
    rw [Nat.zero_mul, List.drop_zero] at h0
    rw [e, h0, hr]
    rfl
theorem st_of {W : World} (r : Lib.VarReads Tryd.prog W "library/rules.standard" Rows.laid_library_rules_standard) : ST W := by
  rw [std_eq] at r
  obtain ⟨g, t, cs, fuel, p, hg, ht, hv, hd⟩ := r
  obtain rfl : g = 0 := Option.some.inj (hg.symm.trans (show _ = some 0 by kernel_rfl))
  obtain rfl : t = 49 := Option.some.inj (ht.symm.trans (show _ = some 49 by kernel_rfl))
  obtain ⟨xs, m, _, hx, hlen, hxl, hel⟩ := DataW.trod_array Tryd.underlying49 hd
  have hx1 : xs.map (·.1) = stdL.map dataT := by
    have := congrArg Prod.fst hx
    simpa using this.symm
  have hlen2 : cs.toList.length = 175 := hlen.trans (by kernel_rfl)
  have hc : cs.toList = cellsT stdL := by
    refine cells_pieces stdL cs.toList (by rw [hlen2]; rfl) fun i hi => ?_
    have hi25 : i < 25 := hi
    have h := hel i hi25
    rw [cells_rule] at h
    obtain ⟨y, hy⟩ : ∃ y, xs[i]? = some y := ⟨xs[i]'(by omega), List.getElem?_eq_getElem (by omega)⟩
    rw [hy] at h
    have hl7 : ((cs.toList.drop (i * 7)).take 7).length = 7 := by
      rw [List.length_take, List.length_drop, hlen2]
      omega
    obtain ⟨t, e1, e2⟩ := open_rul7 hl7 h
    have e3 : (xs.map (·.1))[i]? = some (dataT t) := by rw [List.getElem?_map, hy, Option.map_some, e2]
    rw [hx1, List.getElem?_map, List.getElem?_eq_getElem hi, Option.map_some, Option.some.injEq] at e3
    have e4 := dataT_inj e3
    rw [e1, List.getD_eq_getElem?_getD, List.getElem?_eq_getElem hi, Option.getD_some, e4]
  unfold World.var? at hv
  rw [hg] at hv
  simp only [Option.bind_some] at hv
  split at hv
  · rename_i cs' ty fr hh
    obtain rfl := Option.some.inj hv
    exact ⟨_, _, _, hh, hc⟩
  · cases hv
theorem env_of {W : World} (h : laidMet Tryd.prog laid3 W) : ST W := st_of (Lib.laidMet.reads h (.head _))
theorem env_ofH {W : World} (h : laidMetH Tryd.prog laid3 W) : ST W := by
  rw [MakeChecks.laidMetH_plain _ _ _ (by kernel_rfl)] at h
  exact env_of h
end Go.Proofs.YtjfdolmcecgdgaaDoor
