/- The chapter's examples of layer 4, as the statements' function alive asks them: it returns true. -/
import Derived.Test.YtbemenflkebpnaaDoorM04
namespace Go.Proofs.YtbemenflkebpnaaDoor
open Go.RowKit Go.PlainAid

theorem IL_three (w : World) (a b c : Int) : IL (.slice (some ⟨w.heap.size, 0, none⟩) 3 3) [a, b, c] (w.alloc (.cells #[.int .i64 a, .int .i64 b, .int .i64 c] 3)) := by
  refine ⟨some ⟨w.heap.size, 0, none⟩, 3, rfl, Nat.le_refl _, fun i x hx => ⟨w.heap.size, 0, rfl, by simp, ?_⟩⟩
  match i, hx with
  | 0, hx => simp at hx; subst hx; simp
  | 1, hx => simp at hx; subst hx; simp
  | 2, hx => simp at hx; subst hx; simp
  | (i + 3), hx => simp at hx

set_option maxHeartbeats 8000000 in
theorem alive_any (w : World) (hT : Tab w) :
    Calls Tryd.prog 8 #[] w fun e w' => e = .returned (.bool true) ∧ Below w.heap.size w w' := by
  have A0 := Lib.hid (fun v W (hW : Below w.heap.size w W) (hv : IL v [1, 1, 1] W) => pShare 100 v [1, 1, 1] (by decide) W hv)
  rw [show shareE 100 [1, 1, 1] = 0 by decide +kernel, show shareR 100 [1, 1, 1] = [34, 33, 33] by decide +kernel] at A0
  have A1 := Lib.hid (fun v u W (hv : IL v [34, 33, 33] W) (hu : IL u [34, 33, 33] W) => refInts_any v u [34, 33, 33] [34, 33, 33] W hv hu (by decide) (by decide) true (by decide))
  have A2 := Lib.hid (fun W (hW : Below w.heap.size w W) => pParse ⟨#[48, 49, 46, 48, 48]⟩ (by decide) 0 3 (by decide +kernel) W)
  have A3 := Lib.hid (fun W (hW : Below w.heap.size w W) => pParse ⟨#[49, 48, 48, 48, 48, 48, 48, 46, 48, 49]⟩ (by decide) 0 2 (by decide +kernel) W)
  have A4 := Lib.hid (fun W (hW : Below w.heap.size w W) => pPerm 25 100 2 (by decide +kernel) W)
  have A5 := Lib.hid (fun W (hW : Below w.heap.size w W) => pPerm 35 100 4 (by decide +kernel) W)
  have A6 := Lib.hid (fun W (hW : Below w.heap.size w W) => pFormat 1234 ⟨#[49, 50, 46, 51, 52]⟩ (by decide +kernel) W (hT.on hW))
  have A7 := Lib.hid (fun W (hW : Below w.heap.size w W) => pFormat 5 ⟨#[48, 46, 48, 53]⟩ (by decide +kernel) W (hT.on hW))
  have b0 := Below.refl w.heap.size w
  have hIL := IL_three w 1 1 1
  go_enter Tryd.func8, Tryd.ntmps8
  go_wp2_with fail
  refine (A0.out _ _ (b0.alloc (Nat.le_refl _) _) hIL).mono ?_
  rintro e w1 ⟨v1, rfl, hv1, c1⟩
  have b1 := (b0.alloc (Nat.le_refl _) (.cells #[.int .i64 1, .int .i64 1, .int .i64 1] 3)).trans (c1.mono (by simp))
  clear c1 hIL
  have hv2 := hv1.after ((Below.refl w1.heap.size w1).alloc (Nat.le_refl _) (.cells #[.int .i64 34, .int .i64 33, .int .i64 33] 3))
  have hIL2 := IL_three w1 34 33 33
  clear hv1
  go_wp2_with fail
  refine (A1.out _ _ _ hv2 hIL2).mono ?_
  rintro e w2 ⟨rfl, c2⟩
  have b2 := (b1.alloc b1.size (.cells #[.int .i64 34, .int .i64 33, .int .i64 33] 3)).trans (c2.mono (by have := b1.size; simp; omega))
  clear c2 hv2 hIL2 b0 b1
  go_wp2_with fail
  refine (A2.out _ (by assumption)).mono ?_
  rintro e w3 ⟨rfl, c⟩
  have b3 := b2.trans (c.mono b2.size)
  clear c b2
  go_wp2_with fail
  refine (A3.out _ (by assumption)).mono ?_
  rintro e w4 ⟨rfl, c⟩
  have b4 := b3.trans (c.mono b3.size)
  clear c b3
  go_wp2_with fail
  refine (A4.out _ (by assumption)).mono ?_
  rintro e w5 ⟨rfl, c⟩
  have b5 := b4.trans (c.mono b4.size)
  clear c b4
  go_wp2_with fail
  refine (A5.out _ (by assumption)).mono ?_
  rintro e w6 ⟨rfl, c⟩
  have b6 := b5.trans (c.mono b5.size)
  clear c b5
  go_wp2_with fail
  refine (A6.out _ (by assumption)).mono ?_
  rintro e w7 ⟨rfl, c⟩
  have b7 := b6.trans (c.mono b6.size)
  clear c b6
  go_wp2_with fail
  refine (A7.out _ (by assumption)).mono ?_
  rintro e w8 ⟨rfl, c⟩
  have b8 := b7.trans (c.mono b7.size)
  clear c b7
  go_wp2
  go_ret
  exact ⟨rfl, b8⟩
end Go.Proofs.YtbemenflkebpnaaDoor
