/- libraryref07: Same. -/
import Derived.Test.YtjfdolmcecgdgaaDoorR07D
import Derived.RegionTactic
import Derived.BigRegion
namespace Go.Proofs.YtjfdolmcecgdgaaDoor
open Go.RowKit Go.PlainAid

theorem S_eq (a b : List UInt8) : ((S a).toList == (S b).toList) = decide (a = b) := by
  rw [ByteArray.toList_eq, ByteArray.toList_eq]
  show (a == b) = _
  by_cases h : a = b
  · simp [h]
  · simp [h]
def sameB (f g : Fld) : Bool := decide (f.tag = g.tag) && decide (f.ind = g.ind) && decide (f.auth = g.auth) && decide (f.subs = g.subs)
theorem subs_ext (A B : List Sub) (hl : A.length = B.length) (h : ∀ i, i < A.length → A.getD i sub0 = B.getD i sub0) : A = B := by
  refine List.ext_getElem hl fun i h1 h2 => ?_
  have := h i h1
  rwa [List.getD_eq_getElem?_getD, List.getD_eq_getElem?_getD, List.getElem?_eq_getElem h1, List.getElem?_eq_getElem h2] at this

end Go.Proofs.YtjfdolmcecgdgaaDoor
