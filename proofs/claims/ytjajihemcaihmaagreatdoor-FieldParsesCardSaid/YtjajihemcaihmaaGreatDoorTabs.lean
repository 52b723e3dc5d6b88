/- The premise on the tables of unicode/utf8. -/
import Derived.Test.YtjajihemcaihmaaGreatDoorPlainB
import Derived.Test.YtjajihemcaihmaaGreatDoorIter
import Derived.Test.YtjajihemcaihmaaGreatDoorShelf
namespace Go.Proofs.YtjajihemcaihmaaGreatDoor
open Go.RowKit

/-- The two tables of unicode/utf8 lie in their blocks. -/
def Tabs (w : World) : Prop := (1 < w.heap.size ∧ 2 < w.heap.size) ∧ Lib.Utf8Tabs 1 2 w
theorem Tabs.after {w w' : World} (h : Tabs w) (hb : Below w.heap.size w w') : Tabs w' := by
  obtain ⟨⟨h0, h1⟩, h2, h3⟩ := h
  refine ⟨⟨Nat.lt_of_lt_of_le h0 hb.size, Nat.lt_of_lt_of_le h1 hb.size⟩, fun c hc => ?_, fun i hi => ?_⟩
  · rw [hb.cell (p := ⟨1, c, none⟩) h0]
    exact h2 c hc
  · rw [hb.cell (p := ⟨2, 2 * i, none⟩) h1, hb.cell (p := ⟨2, 2 * i + 1, none⟩) h1]
    exact h3 i hi

end Go.Proofs.YtjajihemcaihmaaGreatDoor
