/- What Parse returns; a field's four cells. -/
import Derived.Test.YtjajihemcaihmaaGreatDoorR07M
import Derived.Test.YtjajihemcaihmaaGreatDoorPlain07C
namespace Go.Proofs.YtjajihemcaihmaaGreatDoor
open Go.RowKit Go.PlainAid

def fld0 : Fld := ⟨[], [], [], 0⟩
/-- What Parse returns. -/
def parseR (s : List UInt8) : Fld × Int := match parseO s with
  | some f => (f, 0)
  | none => (fld0, 3)

/-- The four cells of a field are stored. -/
theorem field_set {w : World} {b : Nat} {c0 c1 c2 c3 x0 x1 x2 x3 : Value} (h : w.heap[b]? = some (.cells #[c0, c1, c2, c3] 25 (0, 0))) :
    ((((w.setCell ⟨b, 0, none⟩ x0).setCell ⟨b, 1, none⟩ x1).setCell ⟨b, 2, none⟩ x2).setCell ⟨b, 3, none⟩ x3).heap[b]? = some (.cells #[x0, x1, x2, x3] 25 (0, 0)) := by
  simp [World.setCell, Array.getElem?_modify, h]
theorem field_cells {w : World} {b : Nat} {c0 c1 c2 c3 : Value} (h : w.heap[b]? = some (.cells #[c0, c1, c2, c3] 25 (0, 0))) :
    (w.cell? ⟨b, 0, none⟩ = some c0 ∧ w.cell? ⟨b, 1, none⟩ = some c1 ∧ w.cell? ⟨b, 2, none⟩ = some c2 ∧ w.cell? ⟨b, 3, none⟩ = some c3) ∧
    (w.frozen? ⟨b, 0, none⟩ = false ∧ w.frozen? ⟨b, 1, none⟩ = false ∧ w.frozen? ⟨b, 2, none⟩ = false ∧ w.frozen? ⟨b, 3, none⟩ = false) := by
  refine ⟨⟨?_, ?_, ?_, ?_⟩, Lib.frozen_of_heap h 0, Lib.frozen_of_heap h 1, Lib.frozen_of_heap h 2, Lib.frozen_of_heap h 3⟩
  · rw [Lib.cell_of_heap h]; rfl
  · rw [Lib.cell_of_heap h]; rfl
  · rw [Lib.cell_of_heap h]; rfl
  · rw [Lib.cell_of_heap h]; rfl

end Go.Proofs.YtjajihemcaihmaaGreatDoor
