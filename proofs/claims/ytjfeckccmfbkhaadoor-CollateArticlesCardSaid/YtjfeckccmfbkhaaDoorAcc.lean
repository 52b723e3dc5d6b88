/- The premise on the table of folded forms. -/
import Derived.Test.YtjfeckccmfbkhaaDoorPlainB
import Derived.Test.YtjfeckccmfbkhaaDoorIter
namespace Go.Proofs.YtjfeckccmfbkhaaDoor
open Go.RowKit

/-- The table of folded forms lies in its block. -/
def Acc (w : World) : Prop := 0 < w.heap.size ∧ ∀ i, i < 64 → w.cell? ⟨0, i, none⟩ = some (.string (T (accL.getD i [])))
theorem Acc.after {w w' : World} (h : Acc w) (hb : Below w.heap.size w w') : Acc w' := by
  obtain ⟨h1, h4⟩ := h
  refine ⟨Nat.lt_of_lt_of_le h1 hb.size, fun i hi => ?_⟩
  rw [hb.cell (p := ⟨0, i, none⟩) h1]
  exact h4 i hi

end Go.Proofs.YtjfeckccmfbkhaaDoor
