/- Merged: M12, Al12. -/
import Derived.Test.YtjfbbpppdlaapaaDoorQ29
import Derived.Test.YtjfbbpppdlaapaaDoorQ10
namespace Go.Proofs.YtjfbbpppdlaapaaDoor

section
open Go.RowKit
theorem pParts12_any (l : List UInt8) (hv : validT l = true) (hl : l.length ≤ 10000) (w : World) (_hE : Env w) :
    Calls Tryd.prog 14 #[.string (S l)] w fun e w' => ∃ v, e = .returned v ∧ BL v (partsX l) w' ∧ Below w.heap.size w w' :=
  parts_any l hv (by omega) w _hE
end

section
theorem al12_n : nameX [68, 97, 114, 119, 105, 110, 44, 32, 67, 104, 97, 114, 108, 101, 115, 44, 32, 49, 56, 48, 57, 45, 49, 56, 56, 50] = (([68, 97, 114, 119, 105, 110], [67, 104, 97, 114, 108, 101, 115], [49, 56, 48, 57, 45, 49, 56, 56, 50]), 0) := by decide +kernel
theorem al12_m : nameX [80, 108, 97, 116, 111, 44, 32, 49, 57, 48, 48, 45] = (([80, 108, 97, 116, 111], [], [49, 57, 48, 48, 45]), 0) := by decide +kernel
theorem al12_g : nameX [97, 44, 98] = (nm0, 3) := by decide +kernel
theorem al12_h : textX12 ([80, 108, 97, 116, 111], [49, 57, 48, 48, 45], []) = ([], 3) := by decide +kernel
theorem al12_i : joinX [[97], [45, 98]] = ([], 3) := by decide +kernel
theorem al12_j : joinX [] = ([], 8) := by decide +kernel
theorem al12_norm : normX [68, 111, 103, 115, 32, 45, 45, 32, 32, 84, 114, 97, 105, 110, 105, 110, 103, 32, 45, 45, 32] = [100, 111, 103, 115, 45, 45, 116, 114, 97, 105, 110, 105, 110, 103] := by decide +kernel
theorem al12_s : sameX [68, 111, 103, 115] [68, 79, 71, 83, 46] = true := by decide +kernel
theorem al12_t : sameX [45, 45] [45, 45] = false := by decide +kernel
theorem al12_p : partsX [97, 45, 45, 45, 98] = [[97], [45, 98]] := by decide +kernel
theorem al12_a : aboveX [65, 114, 116, 45, 45, 72, 105, 115, 116, 111, 114, 121, 45, 45, 70, 114, 97, 110, 99, 101] = [[65, 114, 116, 45, 45, 72, 105, 115, 116, 111, 114, 121], [65, 114, 116]] := by decide +kernel
end

end Go.Proofs.YtjfbbpppdlaapaaDoor
