/- The chapter's examples of layer 5, as the statements' function alive asks them: it returns true. -/
import Derived.Test.YtnbjgkhngolhfaaDoorM05
namespace Go.Proofs.YtnbjgkhngolhfaaDoor
open Go.RowKit Go.PlainAid

set_option maxHeartbeats 8000000 in
theorem alive_any (w : World) (hT : Tab w) :
    Calls Tryd.prog 12 #[] w fun e w' => e = .returned (.bool true) ∧ Below w.heap.size w w' := by
  have A0 := Lib.hid (fun W (hW : Below w.heap.size w W) => pLuhn [55, 57, 57, 50, 55, 51, 57, 56, 55, 49] (by decide) 3 0 (by decide +kernel) W)
  have A1 := Lib.hid (fun W (hW : Below w.heap.size w W) => pMake 2 17 [50, 48, 48, 48, 48, 48, 48, 48, 48, 48, 48, 49, 55, 48] 0 (by decide +kernel) W (hT.on hW))
  have A2 := Lib.hid (fun W (hW : Below w.heap.size w W) => pParse [50, 48, 48, 48, 48, 48, 48, 48, 48, 48, 48, 49, 55, 48] (by decide) 2 17 0 (by decide +kernel) W)
  have A3 := Lib.hid (fun W (hW : Below w.heap.size w W) => pIsbn [48, 45, 51, 48, 54, 45, 52, 48, 54, 49, 53, 45, 50] (by decide) [57, 55, 56, 48, 51, 48, 54, 52, 48, 54, 49, 53, 55] 0 (by decide +kernel) W (hT.on hW))
  have A4 := Lib.hid (fun W (hW : Below w.heap.size w W) => pIsbn [48, 56, 48, 52, 52, 50, 57, 53, 55, 88] (by decide) [57, 55, 56, 48, 56, 48, 52, 52, 50, 57, 53, 55, 51] 0 (by decide +kernel) W (hT.on hW))
  have A5 := Lib.hid (fun W (hW : Below w.heap.size w W) => pIssn [48, 51, 55, 56, 53, 57, 53, 53] (by decide) [48, 51, 55, 56, 45, 53, 57, 53, 53] 0 (by decide +kernel) W)
  have A6 := Lib.hid (fun W (hW : Below w.heap.size w W) => pParse [50, 48, 48, 48, 48, 48, 48, 48, 48, 48, 48, 49, 55, 51] (by decide) 0 0 5 (by decide +kernel) W)
  have A7 := Lib.hid (fun W (hW : Below w.heap.size w W) => pIsbn [48, 56, 48, 52, 52, 50, 57, 53, 88] (by decide) [] 3 (by decide +kernel) W (hT.on hW))
  unfold S at A0 A1 A2 A3 A4 A5 A6 A7
  have b0 := Below.refl w.heap.size w
  go_enter Tryd.func12, Tryd.ntmps12
  go_wp2_with fail
  refine (A0.out _ (by assumption)).mono ?_
  rintro e w1 ⟨rfl, b1⟩
  clear b0
  go_wp2_with fail
  refine (A1.out _ (by assumption)).mono ?_
  rintro e w2 ⟨rfl, c⟩
  have b2 := b1.trans (c.mono b1.size)
  clear c b1
  go_wp2_with fail
  refine (A2.out _ (by assumption)).mono ?_
  rintro e w3 ⟨rfl, c⟩
  have b3 := b2.trans (c.mono b2.size)
  clear c b2
  go_wp2_with fail
  refine (A3.out _ (by assumption)).mono ?_
  rintro e w4 ⟨rfl, c⟩
  have b4 := b3.trans (c.mono b3.size)
  clear c b3
  go_wp2_with fail
  refine (A4.out _ (by assumption)).mono ?_
  rintro e w5 ⟨rfl, c⟩
  have b5 := b4.trans (c.mono b4.size)
  clear c b4
  go_wp2_with fail
  refine (A5.out _ (by assumption)).mono ?_
  rintro e w6 ⟨rfl, c⟩
  have b6 := b5.trans (c.mono b5.size)
  clear c b5
  go_wp2_with fail
  refine (A6.out _ (by assumption)).mono ?_
  rintro e w7 ⟨rfl, c⟩
  have b7 := b6.trans (c.mono b6.size)
  clear c b6
  go_wp2_with fail
  refine (A7.out _ (by assumption)).mono ?_
  rintro e w8 ⟨rfl, c⟩
  have b8 := b7.trans (c.mono b7.size)
  clear c b7
  go_wp2
  go_ret
  exact ⟨rfl, b8⟩
end Go.Proofs.YtnbjgkhngolhfaaDoor
