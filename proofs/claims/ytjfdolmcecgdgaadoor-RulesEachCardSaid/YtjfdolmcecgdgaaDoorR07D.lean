/- libraryref07: All. -/
import Derived.Test.YtjfdolmcecgdgaaDoorR07C
namespace Go.Proofs.YtjfdolmcecgdgaaDoor
open Go.RowKit Go.PlainAid

/-- A row of texts of the call's own, nil while it is empty. -/
theorem BL.of_row {B : Nat} {v : Value} {L : List (List UInt8)} {w : World} (h : w.ownsRow B 9 1 v L.length (L.map strB)) : BL v L w := by
  by_cases hn : v = .slice none 0 0
  · subst hn
    rcases h.2 with ⟨_, h0⟩ | ⟨g, cap, cur, e, _⟩
    · have : L = [] := List.eq_nil_of_length_eq_zero h0
      subst this
      exact ⟨none, 0, rfl, Nat.le_refl _, Nat.zero_le _, fun _ => rfl, fun i hi => by cases hi⟩
    · cases e
  · exact SR.bl ⟨h, hn⟩

end Go.Proofs.YtjfdolmcecgdgaaDoor
