/- Merged: FC07. -/
import Derived.Test.YtfjfpefpdlecbaaGreatDoorQ25
import Derived.Test.YtfjfpefpdlecbaaGreatDoorQ14
namespace Go.Proofs.YtfjfpefpdlecbaaGreatDoor

section
open Go.RowKit Go.PlainAid
/-- What yields a slice of subfields, a function value, and so on. -/
def SP.ql (v : Value) (L : List Sub) : SP := ⟨fun x w => x = v ∧ QL v L w, fun _ _ _ h b => ⟨h.1, h.2.after b⟩⟩
/-- The first place of a code, or none. -/
theorem first_code (L : List Sub) (c : UInt8) : (∀ j, j < L.length → (L.getD j sub0).1 ≠ c) ∨ ∃ k, k < L.length ∧ (∀ j, j < k → (L.getD j sub0).1 ≠ c) ∧ (L.getD k sub0).1 = c := by
  rcases first_bad (fun i => !decide ((L.getD i sub0).1 = c)) L.length with h | ⟨j, hj, h1, h2⟩
  · exact .inl fun j hj => by simpa using h j hj
  · exact .inr ⟨j, hj, fun i hi => by simpa using h1 i hi, by simpa using h2⟩
end

end Go.Proofs.YtfjfpefpdlecbaaGreatDoor
