/- What the rows list of the program's tables gives the walks: the premise Tab. -/
import Derived.Test.YtdcmfncocehbhaaDoorRows
import Derived.Test.YtdcmfncocehbhaaDoorTab03
import Derived.Stop.LaidErr
import Derived.LaidMore
namespace Go.Proofs.YtdcmfncocehbhaaDoor
open Go.RowKit Go.Lib

/-- What every row of this seat lists. -/
def laid3 : List (String × DataW Unit) := Rows.dateOfRow.laid
theorem lens_eq : Rows.laid_library_date_lengths (H := Unit) = tabData .i64 lensT := by kernel_rfl
theorem pows_eq : Rows.laid_internal_strconv_uint64pow10 (H := Unit) = tabData .u64 pow10Tab := by kernel_rfl
theorem env_of {W : World} (h : laidMet Tryd.prog laid3 W) : Tab W := by
  have h3 : laidMet Tryd.prog [("internal/strconv.uint64pow10", Rows.laid_internal_strconv_uint64pow10), ("library/date.lengths", Rows.laid_library_date_lengths)] W := laidMet.tail (laidMet.tail h)
  have h4 := laidMet.tail h3
  rw [pows_eq] at h3
  rw [lens_eq] at h4
  exact ⟨tabIs_of_head (g := 0) (t := 37) (e := 3) (n := 12) (by kernel_rfl) (by kernel_rfl) Tryd.underlying37 Tryd.underlying3 (by kernel_rfl) (by kernel_rfl) h4,
    tabIs_of_head (g := 1) (t := 52) (e := 46) (n := 20) (by kernel_rfl) (by kernel_rfl) Tryd.underlying52 Tryd.underlying46 (by kernel_rfl) (by kernel_rfl) h3⟩
theorem env_ofH {W : World} (h : laidMetH Tryd.prog laid3 W) : Tab W := by
  rw [MakeChecks.laidMetH_plain _ _ _ (by kernel_rfl)] at h
  exact env_of h
end Go.Proofs.YtdcmfncocehbhaaDoor
