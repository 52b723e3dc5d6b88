/- Arguments that came in: a slice of integers. -/
import Derived.Test.YtbemenflkebpnaaDoorInts
import Derived.Test.YtbemenflkebpnaaDoorRows
import Derived.ChangeSlices
import Derived.Lib.SmallJoins
import Derived.Carry
namespace Go.Proofs.YtbemenflkebpnaaDoor
open Go.RowKit Go.Lib Go.ChangeShapes Go.WideShapes

theorem laidOut : laidOutB Tryd.prog = true := by kernel_rfl
theorem cells_int : Tryd.prog.cellsOf 3 = 1 := by kernel_rfl
theorem open_il {H : Type} {enc : TypeId × Value → H} {W : World} {a0 : Option Addr} {len cap fuel : Nat} {x : DataW H × List MemPlace}
    (hf : DataW.trod enc Tryd.prog W 0 (fun _ => true) true fuel 29 [.slice a0 len cap] = some x) :
    ∃ l : List Int, IL (.slice a0 len cap) l W ∧ l.length ≤ 9223372036854775807 := by
  rcases open_ints Tryd.underlying29 Tryd.underlying3 cells_int hf with ⟨hcs, hx⟩ | ⟨a, len', cap', zs, hcs, _, hl, hm, hz, hx, hcell, _⟩
  · simp at hcs
    obtain ⟨rfl, rfl, rfl⟩ := hcs
    exact ⟨[], ⟨none, 0, rfl, Nat.le_refl _, fun i x hi => by simp at hi⟩, Nat.zero_le _⟩
  · simp at hcs
    obtain ⟨rfl, rfl, rfl⟩ := hcs
    simp only [if_true] at hz
    obtain ⟨b, off, spot⟩ := a
    have hlen : (zs.take len).length = len := by simp; omega
    refine ⟨zs.take len, ⟨some ⟨b, off, spot⟩, cap, by rw [hlen], by omega, fun i X hX => ?_⟩, by rw [hlen]; unfold maxLen at hm; omega⟩
    have hj : i < len := by
      have := (List.getElem?_eq_some_iff.1 hX).1
      simp at this
      omega
    have hspot : spot = none := by simpa [Addr.add] using World.cell?_spot (hcell 0 (by omega))
    subst hspot
    have hX' : zs.getD i 0 = X := by
      rw [List.getElem?_take_of_lt hj] at hX
      simp [List.getD, hX]
    have hc := hcell i (by omega)
    have hadd : (⟨b, off, none⟩ : Addr).add i = ⟨b, off + i, none⟩ := by unfold Addr.add; split <;> simp_all
    rw [hadd, hX'] at hc
    refine ⟨b, off, rfl, ?_, hc⟩
    rcases Nat.lt_or_ge b W.heap.size with hh | hh
    · exact hh
    · simp [World.cell?, Array.getElem?_eq_none hh] at hc
end Go.Proofs.YtbemenflkebpnaaDoor
