/- The chapter's examples, as the statements' function alive asks them: it returns true, wherever the program's table lies. -/
import Derived.Test.YtjfeckccmfbkhaaDoorCSkipAll
import Derived.Test.YtjfeckccmfbkhaaDoorCKey
namespace Go.Proofs.YtjfeckccmfbkhaaDoor
open Go.RowKit


set_option maxHeartbeats 8000000 in
theorem alive_any (w : World) (hE : Acc w) :
    Calls Tryd.prog 12 #[] w fun e w' => e = .returned (.bool true) ∧ Below w.heap.size w w' := by
  have HE := Lib.hid hE
  clear hE
  have A0 := Lib.hid (fun W hE => cskip_any ⟨#[101, 110, 103]⟩ [84, 104, 101, 32, 32, 68, 111, 103, 115] (by unfold OKs; decide) ⟨#[84, 104, 101, 32, 32, 68, 111, 103, 115]⟩ ⟨#[68, 111, 103, 115]⟩ (by kernel_rfl) (by decide) (by kernel_rfl) W hE)
  have A1 := Lib.hid (fun W hE => cskip_any ⟨#[101, 110, 103]⟩ [84, 104, 101] (by unfold OKs; decide) ⟨#[84, 104, 101]⟩ ⟨#[84, 104, 101]⟩ (by kernel_rfl) (by decide) (by kernel_rfl) W hE)
  have A2 := Lib.hid (fun W hE => cskip_any ⟨#[103, 101, 114]⟩ [84, 104, 101, 32, 68, 111, 103, 115] (by unfold OKs; decide) ⟨#[84, 104, 101, 32, 68, 111, 103, 115]⟩ ⟨#[84, 104, 101, 32, 68, 111, 103, 115]⟩ (by kernel_rfl) (by decide) (by kernel_rfl) W hE)
  have A3 := Lib.hid (fun W hE => cskip_any ⟨#[108, 97, 116]⟩ [84, 104, 101, 32, 68, 111, 103, 115] (by unfold OKs; decide) ⟨#[84, 104, 101, 32, 68, 111, 103, 115]⟩ ⟨#[84, 104, 101, 32, 68, 111, 103, 115]⟩ (by kernel_rfl) (by decide) (by kernel_rfl) W hE)
  have A4 := Lib.hid (fun W hE => ckey_any ⟨#[103, 101, 114]⟩ [196, 112, 102, 101, 108, 32, 38, 32, 214, 108] (by unfold OKs; decide) ⟨#[195, 132, 112, 102, 101, 108, 32, 38, 32, 195, 150, 108]⟩ ⟨#[97, 101, 112, 102, 101, 108, 32, 111, 101, 108]⟩ (by kernel_rfl) (by decide) (by kernel_rfl) W hE)
  have A5 := Lib.hid (fun W hE => ckey_any ⟨#[101, 110, 103]⟩ [196, 112, 102, 101, 108] (by unfold OKs; decide) ⟨#[195, 132, 112, 102, 101, 108]⟩ ⟨#[97, 112, 102, 101, 108]⟩ (by kernel_rfl) (by decide) (by kernel_rfl) W hE)
  have A6 := Lib.hid (fun W hE => ckey_any ⟨#[115, 119, 101]⟩ [197, 108] (by unfold OKs; decide) ⟨#[195, 133, 108]⟩ ⟨#[123, 108]⟩ (by kernel_rfl) (by decide) (by kernel_rfl) W hE)
  have A7 := Lib.hid (fun W hE => ckey_any ⟨#[115, 112, 97]⟩ [65, 241, 111] (by unfold OKs; decide) ⟨#[65, 195, 177, 111]⟩ ⟨#[97, 110, 126, 111]⟩ (by kernel_rfl) (by decide) (by kernel_rfl) W hE)
  have A8 := Lib.hid (fun W hE => ckey_any ⟨#[101, 110, 103]⟩ [97, 123, 98] (by unfold OKs; decide) ⟨#[97, 123, 98]⟩ ⟨#[97, 32, 98]⟩ (by kernel_rfl) (by decide) (by kernel_rfl) W hE)
  have A9 := Lib.hid (fun W hE => ccompare_any ⟨#[115, 119, 101]⟩ [90, 111, 110] [197, 108] (by unfold OKs; decide) (by unfold OKs; decide) (by decide) (by decide) ⟨#[90, 111, 110]⟩ ⟨#[195, 133, 108]⟩ (by kernel_rfl) (by kernel_rfl) (-1) (by kernel_rfl) W hE)
  have A10 := Lib.hid (fun W hE => ccompare_any ⟨#[101, 110, 103]⟩ [197, 108] [90, 111, 110] (by unfold OKs; decide) (by unfold OKs; decide) (by decide) (by decide) ⟨#[195, 133, 108]⟩ ⟨#[90, 111, 110]⟩ (by kernel_rfl) (by kernel_rfl) (-1) (by kernel_rfl) W hE)
  have A11 := Lib.hid (fun W hE => ccompare_any ⟨#[101, 110, 103]⟩ [100, 111, 103] [68, 111, 103] (by unfold OKs; decide) (by unfold OKs; decide) (by decide) (by decide) ⟨#[100, 111, 103]⟩ ⟨#[68, 111, 103]⟩ (by kernel_rfl) (by kernel_rfl) 1 (by kernel_rfl) W hE)
  have K1 := Lib.hid (fun W => known_any ⟨#[115, 112, 97]⟩ true (by kernel_rfl) W)
  have K2 := Lib.hid (fun W => known_any ⟨#[108, 97, 116]⟩ false (by kernel_rfl) W)
  have b0 := Below.refl w.heap.size w
  go_enter Tryd.func12, Tryd.ntmps12
  go_wp2_with fail
  refine (A0.out _ (HE.out.after b0)).mono ?_
  rintro e w1 ⟨rfl, c0⟩
  have b1 := b0.trans (c0.mono b0.size)
  clear b0 c0
  go_wp2_with fail
  refine (A1.out _ (HE.out.after b1)).mono ?_
  rintro e w2 ⟨rfl, c1⟩
  have b2 := b1.trans (c1.mono b1.size)
  clear b1 c1
  go_wp2_with fail
  refine (A2.out _ (HE.out.after b2)).mono ?_
  rintro e w3 ⟨rfl, c2⟩
  have b3 := b2.trans (c2.mono b2.size)
  clear b2 c2
  go_wp2_with fail
  refine (A3.out _ (HE.out.after b3)).mono ?_
  rintro e w4 ⟨rfl, c3⟩
  have b4 := b3.trans (c3.mono b3.size)
  clear b3 c3
  go_wp2_with fail
  refine (A4.out _ (HE.out.after b4)).mono ?_
  rintro e w5 ⟨rfl, c4⟩
  have b5 := b4.trans (c4.mono b4.size)
  clear b4 c4
  go_wp2_with fail
  refine (A5.out _ (HE.out.after b5)).mono ?_
  rintro e w6 ⟨rfl, c5⟩
  have b6 := b5.trans (c5.mono b5.size)
  clear b5 c5
  go_wp2_with fail
  refine (A6.out _ (HE.out.after b6)).mono ?_
  rintro e w7 ⟨rfl, c6⟩
  have b7 := b6.trans (c6.mono b6.size)
  clear b6 c6
  go_wp2_with fail
  refine (A7.out _ (HE.out.after b7)).mono ?_
  rintro e w8 ⟨rfl, c7⟩
  have b8 := b7.trans (c7.mono b7.size)
  clear b7 c7
  go_wp2_with fail
  refine (A8.out _ (HE.out.after b8)).mono ?_
  rintro e w9 ⟨rfl, c8⟩
  have b9 := b8.trans (c8.mono b8.size)
  clear b8 c8
  go_wp2_with fail
  refine (A9.out _ (HE.out.after b9)).mono ?_
  rintro e w10 ⟨rfl, c9⟩
  have b10 := b9.trans (c9.mono b9.size)
  clear b9 c9
  go_wp2_with fail
  refine (A10.out _ (HE.out.after b10)).mono ?_
  rintro e w11 ⟨rfl, c10⟩
  have b11 := b10.trans (c10.mono b10.size)
  clear b10 c10
  go_wp2_with fail
  refine (A11.out _ (HE.out.after b11)).mono ?_
  rintro e w12 ⟨rfl, c11⟩
  have b12 := b11.trans (c11.mono b11.size)
  clear b11 c11
  go_wp2_with fail
  refine (K1.out _).mono ?_
  rintro e w13 ⟨rfl, rfl⟩
  go_wp2_with fail
  refine (K2.out _).mono ?_
  rintro e w14 ⟨rfl, rfl⟩
  go_wp2
  go_ret
  exact ⟨rfl, b12⟩
end Go.Proofs.YtjfeckccmfbkhaaDoor
