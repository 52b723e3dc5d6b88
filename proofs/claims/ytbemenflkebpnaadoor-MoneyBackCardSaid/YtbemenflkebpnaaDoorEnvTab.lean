/- What the rows list of the program's tables gives the walks: the premise Tab. -/
import Derived.Test.YtbemenflkebpnaaDoorRows
import Derived.Test.YtbemenflkebpnaaDoorTab04
import Derived.Stop.LaidErr
import Derived.LaidMore
namespace Go.Proofs.YtbemenflkebpnaaDoor
open Go.RowKit Go.Lib

/-- What every row of this seat lists. -/
def laid3 : List (String × DataW Unit) := Rows.moneyAddsRow.laid
theorem pows_eq : Rows.laid_internal_strconv_uint64pow10 (H := Unit) = tabData .u64 pow10Tab := by kernel_rfl
theorem env_of {W : World} (h : laidMet Tryd.prog laid3 W) : Tab W := by
  have h3 : laidMet Tryd.prog [("internal/strconv.uint64pow10", Rows.laid_internal_strconv_uint64pow10)] W := laidMet.tail (laidMet.tail h)
  rw [pows_eq] at h3
  exact ⟨tabIs_of_head (g := 0) (t := 52) (e := 44) (n := 20) (by kernel_rfl) (by kernel_rfl) Tryd.underlying52 Tryd.underlying44 (by kernel_rfl) (by kernel_rfl) h3⟩
theorem env_ofH {W : World} (h : laidMetH Tryd.prog laid3 W) : Tab W := by
  rw [MakeChecks.laidMetH_plain _ _ _ (by kernel_rfl)] at h
  exact env_of h
end Go.Proofs.YtbemenflkebpnaaDoor
