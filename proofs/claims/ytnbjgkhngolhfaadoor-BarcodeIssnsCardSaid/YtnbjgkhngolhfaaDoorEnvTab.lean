/- What the rows list of the program's tables, and the world's shape, give the walks: the premise Tab. -/
import Derived.Test.YtnbjgkhngolhfaaDoorRows
import Derived.Test.YtnbjgkhngolhfaaDoorTab05
import Derived.Test.YtnbjgkhngolhfaaDoorShapedAnd
import Derived.Shelf.Vars
import Derived.Stop.LaidErr
import Derived.LaidMore
namespace Go.Proofs.YtnbjgkhngolhfaaDoor
open Go.RowKit Go.Lib

/-- What every row of this seat lists. -/
def laid3 : List (String × DataW Unit) := Rows.barcodeLuhnsRow.laid
theorem pows_eq : Rows.laid_internal_strconv_uint64pow10 (H := Unit) = tabData .u64 pow10Tab := by kernel_rfl
theorem env_of {W : World} (h : laidMet Tryd.prog laid3 W) (hs : W.ShapedOpen Tryd.prog) : Tab W := by
  have h3 : laidMet Tryd.prog (("internal/strconv.uint64pow10", Rows.laid_internal_strconv_uint64pow10) :: _) W := laidMet.tail (laidMet.tail h)
  rw [pows_eq] at h3
  exact ⟨tabIs_of_head (g := 2) (t := 95) (e := 67) (n := 20) (by kernel_rfl) (by kernel_rfl) Tryd.underlying95 Tryd.underlying67 (by kernel_rfl) (by kernel_rfl) h3,
    cell_of_shapedOpen_int (P := Tryd.prog) (g := 3) (t := 3) (zero := #[.int .i64 0]) hs (of_decide_eq_true (by kernel_rfl)) (by kernel_rfl) rfl (by kernel_rfl) (by kernel_rfl) Tryd.underlying3⟩
theorem env_ofH {W : World} (h : laidMetH Tryd.prog laid3 W) (hs : W.ShapedOpen Tryd.prog) : Tab W := by
  rw [MakeChecks.laidMetH_plain _ _ _ (by kernel_rfl)] at h
  exact env_of h hs
end Go.Proofs.YtnbjgkhngolhfaaDoor
