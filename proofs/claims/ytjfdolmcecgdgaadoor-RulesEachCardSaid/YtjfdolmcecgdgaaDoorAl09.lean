/- The laws' alive: the chapter's examples. -/
import Derived.Test.YtjfdolmcecgdgaaDoorUK09
import Derived.Test.YtjfdolmcecgdgaaDoorUS09
import Derived.Test.YtjfdolmcecgdgaaDoorOA09
import Derived.Test.YtjfdolmcecgdgaaDoorRH09
namespace Go.Proofs.YtjfdolmcecgdgaaDoor
open Go.RowKit Go.PlainAid

def s245 : Rul := ⟨[50, 52, 53], false, true, [97, 98, 99, 110, 112], [97, 99], [97], 0⟩
theorem std_fits (fs : List Fld) (h1 : fs.length ≤ 100) (h2 : ∀ i, i < fs.length → (fs.getD i fd0).tag.length ≤ maxLen ∧ (fs.getD i fd0).subs.length ≤ 1000) : Fits stdL fs := by
  refine ⟨by decide, h1, fun i hi => ?_, fun i hi => (h2 i hi).1, fun i hi => (h2 i hi).2, by decide⟩
  have key : ∀ t ∈ stdL, t.tag.length ≤ 3 := by decide
  rw [List.getD_eq_getElem?_getD, List.getElem?_eq_getElem hi]
  exact Nat.le_trans (key _ (List.getElem_mem hi)) (by decide)
theorem one_fits (codes : List UInt8) (hz : codes.length ≤ 1000) : Fits stdL (oneR [50, 52, 53] codes).fields := by
  refine std_fits _ (by show 1 ≤ 100; decide) fun i hi => ?_
  obtain rfl : i = 0 := by
    have : (oneR [50, 52, 53] codes).fields.length = 1 := rfl
    omega
  exact ⟨by show 3 ≤ maxLen; unfold maxLen; decide, by show (oneS codes).length ≤ 1000; rw [oneS_len]; exact hz⟩
def wantL : List Prb := [⟨5, 0, [50, 52, 53], 99⟩, ⟨4, 0, [50, 52, 53], 113⟩, ⟨6, 0, [50, 52, 53], 97⟩]

section
variable (v : Value) (W : World) (hv : TL v stdL W)
include hv
theorem exFind1 : Calls Tryd.prog 11 #[v, .string ⟨#[50, 52, 53]⟩] W fun e w' => e = .returned (.tuple #[.agg #[.string ⟨#[50, 52, 53]⟩, .bool false, .bool true, .string ⟨#[97, 98, 99, 110, 112]⟩, .string ⟨#[97, 99]⟩, .string ⟨#[97]⟩, .int .i64 0], .bool true]) ∧ Below W.heap.size W w' :=
  uFind_any stdL v [50, 52, 53] W hv s245 true (by kernel_rfl)
theorem exFind2 : Calls Tryd.prog 11 #[v, .string ⟨#[57, 57, 57]⟩] W fun e w' => e = .returned (.tuple #[.agg #[.string ⟨#[]⟩, .bool false, .bool false, .string ⟨#[]⟩, .string ⟨#[]⟩, .string ⟨#[]⟩, .int .i64 0], .bool false]) ∧ Below W.heap.size W w' :=
  uFind_any stdL v [57, 57, 57] W hv rul0 false (by kernel_rfl)
theorem exSound (u : Value) (hu : FL u (oneR [50, 52, 53] [97]).fields W) : Calls Tryd.prog 22 #[v, .agg #[.int .i64 1, .int .i64 3, .int .i64 1, .string ⟨#[101, 110, 103]⟩, u]] W fun e w' => e = .returned (.bool true) ∧ Below W.heap.size W w' :=
  uSound_any stdL v (oneR [50, 52, 53] [97]) u W hv hu (one_fits _ (by decide)) true (by kernel_rfl)
theorem exCheck0 : Calls Tryd.prog 21 #[v, .agg #[.int .i64 0, .int .i64 0, .int .i64 0, .string ⟨#[]⟩, .slice none 0 0]] W fun e w' => ∃ v', e = .returned v' ∧ PL v' [⟨1, -1, [50, 52, 53], 0⟩] w' ∧ Below W.heap.size W w' := by
  have h := uCheck_any stdL v rec0 (.slice none 0 0) W hv ⟨none, 0, rfl, Nat.le_refl _, Nat.zero_le _, fun _ => rfl, fun i hi => by cases hi⟩ (std_fits [] (by decide) fun i hi => by cases hi)
  rw [show checkL stdL rec0.fields = [⟨1, -1, [50, 52, 53], 0⟩] by kernel_rfl] at h
  exact h
theorem exCheck1 (u : Value) (hu : FL u (oneR [50, 52, 53] [98, 99, 99, 113]).fields W) : Calls Tryd.prog 21 #[v, .agg #[.int .i64 1, .int .i64 3, .int .i64 1, .string ⟨#[101, 110, 103]⟩, u]] W fun e w' => ∃ v', e = .returned v' ∧ PL v' wantL w' ∧ Below W.heap.size W w' := by
  have h := uCheck_any stdL v (oneR [50, 52, 53] [98, 99, 99, 113]) u W hv hu (one_fits _ (by decide))
  rw [show checkL stdL (oneR [50, 52, 53] [98, 99, 99, 113]).fields = wantL by kernel_rfl] at h
  exact h
end
theorem exOne1 (W : World) : Calls Tryd.prog 25 #[.string ⟨#[50, 52, 53]⟩, .string ⟨#[97]⟩] W fun e w' => ∃ u, e = .returned (.agg #[.int .i64 1, .int .i64 3, .int .i64 1, .string ⟨#[101, 110, 103]⟩, u]) ∧ FL u (oneR [50, 52, 53] [97]).fields w' ∧ Below W.heap.size W w' :=
  one_any [50, 52, 53] [97] W (by decide)
theorem exOne2 (W : World) : Calls Tryd.prog 25 #[.string ⟨#[50, 52, 53]⟩, .string ⟨#[98, 99, 99, 113]⟩] W fun e w' => ∃ u, e = .returned (.agg #[.int .i64 1, .int .i64 3, .int .i64 1, .string ⟨#[101, 110, 103]⟩, u]) ∧ FL u (oneR [50, 52, 53] [98, 99, 99, 113]).fields w' ∧ Below W.heap.size W w' :=
  one_any [50, 52, 53] [98, 99, 99, 113] W (by decide)
theorem want_pl (w : World) : PL (.slice (some ⟨w.heap.size, 0, none⟩) 3 3) wantL (w.alloc (.cells #[.int .i64 5, .int .i64 0, .string ⟨#[50, 52, 53]⟩, .int .u8 99, .int .i64 4, .int .i64 0, .string ⟨#[50, 52, 53]⟩, .int .u8 113, .int .i64 6, .int .i64 0, .string ⟨#[50, 52, 53]⟩, .int .u8 97] 44)) := by
  have hg := heap_alloc_new w (.cells #[.int .i64 5, .int .i64 0, .string ⟨#[50, 52, 53]⟩, .int .u8 99, .int .i64 4, .int .i64 0, .string ⟨#[50, 52, 53]⟩, .int .u8 113, .int .i64 6, .int .i64 0, .string ⟨#[50, 52, 53]⟩, .int .u8 97] 44)
  refine ⟨_, 3, rfl, Nat.le_refl _, by unfold maxLen; decide, (fun h => by cases h), fun i hi => ⟨w.heap.size, 0, rfl, (Array.getElem?_eq_some_iff.1 hg).1, ?_⟩⟩
  match i, hi with
  | 0, _ => refine ⟨?_, ?_, ?_, ?_⟩ <;> (rw [Lib.cell_of_heap hg]; rfl)
  | 1, _ => refine ⟨?_, ?_, ?_, ?_⟩ <;> (rw [Lib.cell_of_heap hg]; rfl)
  | 2, _ => refine ⟨?_, ?_, ?_, ?_⟩ <;> (rw [Lib.cell_of_heap hg]; rfl)
theorem u245 {b : Nat} {W : World} (h : UB b s245 W) : W.cell? ⟨b, 1, none⟩ = some (.bool false) ∧ W.cell? ⟨b, 2, none⟩ = some (.bool true) ∧ W.cell? ⟨b, 3, none⟩ = some (.string ⟨#[97, 98, 99, 110, 112]⟩) := ⟨h.cells.2.1, h.cells.2.2.1, h.cells.2.2.2.1⟩

set_option maxHeartbeats 16000000 in
set_option maxRecDepth 100000 in
theorem alive_any (w : World) (hS : ST w) :
    Calls Tryd.prog 14 #[] w fun e w' => e = .returned (.bool true) ∧ Below w.heap.size w w' := by
  have C0 := Lib.hid (uStandard_any w hS)
  have CF1 := Lib.hid exFind1
  have CF2 := Lib.hid exFind2
  have CO1 := Lib.hid exOne1
  have CO2 := Lib.hid exOne2
  have CS := Lib.hid exSound
  have CK0 := Lib.hid exCheck0
  have CK1 := Lib.hid exCheck1
  have CSP := Lib.hid (fun L x y W hx hy => refSameP_any L L x y W hx hy true ⟨fun _ => rfl, fun _ => rfl⟩)
  have CW := Lib.hid want_pl
  have CU := Lib.hid (fun b W (h : UB b s245 W) => u245 h)
  have CN := Lib.hid (fun w => UB.new s245 w)
  have COne := Lib.hid (fun w => PL.one w ⟨1, -1, [50, 52, 53], 0⟩)
  clear hS
  go_enter Tryd.func14, Tryd.ntmps14
  go_wp2_with fail
  refine (C0.out).mono ?_
  rintro e w1 ⟨v, rfl, hT, b1⟩
  obtain ⟨a, cp, rfl, _, _⟩ := hT.length
  rw [show stdL.length = 25 from rfl] at hT ⊢
  go_wp2_with fail
  refine (CF1.out _ w1 hT).mono ?_
  rintro e w2 ⟨rfl, c⟩
  have b2 := b1.trans (c.mono b1.size)
  have hT2 := hT.after c
  have hA := (Below.refl w2.heap.size w2).alloc (Nat.le_refl _) (.cells #[.string ⟨#[50, 52, 53]⟩, .bool false, .bool true, .string ⟨#[97, 98, 99, 110, 112]⟩, .string ⟨#[97, 99]⟩, .string ⟨#[97]⟩, .int .i64 0] 25)
  have hU : UB w2.heap.size s245 (w2.alloc (.cells #[.string ⟨#[50, 52, 53]⟩, .bool false, .bool true, .string ⟨#[97, 98, 99, 110, 112]⟩, .string ⟨#[97, 99]⟩, .string ⟨#[97]⟩, .int .i64 0] 25)) := CN.out w2
  obtain ⟨w3, hw3⟩ : ∃ w3, w2.alloc (.cells #[.string ⟨#[50, 52, 53]⟩, .bool false, .bool true, .string ⟨#[97, 98, 99, 110, 112]⟩, .string ⟨#[97, 99]⟩, .string ⟨#[97]⟩, .int .i64 0] 25) = w3 := ⟨_, rfl⟩
  rw [hw3] at hA hU
  have b3 := b2.trans (hA.mono b2.size)
  have hT3 := hT2.after hA
  have HW3 := Lib.hid hw3
  clear hw3 hA hT hT2 b1 b2 c
  go_upto_region 3 with fail
  rw [HW3.out]
  clear HW3
  obtain ⟨bt, hbt⟩ : ∃ b, w2.heap.size = b := ⟨_, rfl⟩
  rw [hbt] at hU ⊢
  clear hbt
  go_wp2_with fail
  refine (CF2.out _ w3 hT3).mono ?_
  rintro e w4 ⟨rfl, c⟩
  have b4 := b3.trans (c.mono b3.size)
  have hT4 := hT3.after c
  have hU4 := hU.after c
  have hA := (Below.refl w4.heap.size w4).alloc (Nat.le_refl _) (.cells #[.string ⟨#[]⟩, .bool false, .bool false, .string ⟨#[]⟩, .string ⟨#[]⟩, .string ⟨#[]⟩, .int .i64 0] 25)
  obtain ⟨w5, hw5⟩ : ∃ w5, w4.alloc (.cells #[.string ⟨#[]⟩, .bool false, .bool false, .string ⟨#[]⟩, .string ⟨#[]⟩, .string ⟨#[]⟩, .int .i64 0] 25) = w5 := ⟨_, rfl⟩
  rw [hw5] at hA
  have b5 := b4.trans (hA.mono b4.size)
  have hT5 := hT4.after hA
  have hU5 := hU4.after hA
  have HW5 := Lib.hid hw5
  clear hw5 hA hT3 hT4 hU hU4 b3 b4 c
  go_upto_region 4 with fail
  rw [HW5.out]
  clear HW5
  have hA := (Below.refl w5.heap.size w5).alloc (Nat.le_refl _) (.cells #[.int .i64 5, .int .i64 0, .string ⟨#[50, 52, 53]⟩, .int .u8 99, .int .i64 4, .int .i64 0, .string ⟨#[50, 52, 53]⟩, .int .u8 113, .int .i64 6, .int .i64 0, .string ⟨#[50, 52, 53]⟩, .int .u8 97] 44)
  have hWa := CW.out w5
  obtain ⟨w6, hw6⟩ : ∃ w6, w5.alloc (.cells #[.int .i64 5, .int .i64 0, .string ⟨#[50, 52, 53]⟩, .int .u8 99, .int .i64 4, .int .i64 0, .string ⟨#[50, 52, 53]⟩, .int .u8 113, .int .i64 6, .int .i64 0, .string ⟨#[50, 52, 53]⟩, .int .u8 97] 44) = w6 := ⟨_, rfl⟩
  rw [hw6] at hA hWa
  have b6 := b5.trans (hA.mono b5.size)
  have hT6 := hT5.after hA
  have hU6 := hU5.after hA
  have HW6 := Lib.hid hw6
  clear hw6 hA hT5 hU5 b5
  go_upto_region 5 with fail
  rw [HW6.out]
  clear HW6
  obtain ⟨bw, hbw⟩ : ∃ b, w5.heap.size = b := ⟨_, rfl⟩
  rw [hbw] at hWa ⊢
  clear hbw
  obtain ⟨u1, u2, u3⟩ := CU.out _ _ hU6
  go_wp2_with fail
  refine (CO1.out w6).mono ?_
  rintro e w7 ⟨u, rfl, hF, c⟩
  have b7 := b6.trans (c.mono b6.size)
  have hT7 := hT6.after c
  have hWa7 := hWa.after c
  obtain ⟨au, cu, rfl, _, _⟩ := hF.length
  rw [show (oneR [50, 52, 53] [97]).fields.length = 1 from rfl] at hF ⊢
  clear u1 u2 u3 hT6 hU6 hWa b6 c
  go_wp2_with fail
  refine (CS.out _ w7 hT7 _ hF).mono ?_
  rintro e w8 ⟨rfl, c⟩
  have b8 := b7.trans (c.mono b7.size)
  have hT8 := hT7.after c
  have hWa8 := hWa7.after c
  clear hT7 hWa7 b7 c hF
  go_wp2_with fail
  refine (CK0.out _ w8 hT8).mono ?_
  rintro e w9 ⟨x, rfl, hP, c⟩
  have b9 := b8.trans (c.mono b8.size)
  have hT9 := hT8.after c
  have hWa9 := hWa8.after c
  obtain ⟨ap, cq, rfl, _, _⟩ := hP.length
  rw [show ([⟨1, -1, [50, 52, 53], 0⟩] : List Prb).length = 1 from rfl] at hP ⊢
  have hA := (Below.refl w9.heap.size w9).alloc (Nat.le_refl _) (.cells #[.int .i64 1, .int .i64 (-1), .string ⟨#[50, 52, 53]⟩, .int .u8 0] 44)
  have hO : PL (.slice (some ⟨w9.heap.size, 0, none⟩) 1 1) [⟨1, -1, [50, 52, 53], 0⟩] (w9.alloc (.cells #[.int .i64 1, .int .i64 (-1), .string ⟨#[50, 52, 53]⟩, .int .u8 0] 44)) := COne.out w9
  have hP2 := hP.after hA
  have b10 := b9.trans (hA.mono b9.size)
  have hT10 := hT9.after hA
  have hWa10 := hWa9.after hA
  clear hT8 hWa8 b8 c hP hT9 hWa9 b9 hA
  go_wp2_with fail
  refine (CSP.out _ _ _ _ hP2 hO).mono ?_
  rintro e w11 ⟨rfl, c⟩
  have b11 := b10.trans (c.mono b10.size)
  have hT11 := hT10.after c
  have hWa11 := hWa10.after c
  clear hP2 hO b10 hT10 hWa10 c
  go_wp2_with fail
  refine (CO2.out w11).mono ?_
  rintro e w12 ⟨u, rfl, hF, c⟩
  have b12 := b11.trans (c.mono b11.size)
  have hT12 := hT11.after c
  have hWa12 := hWa11.after c
  obtain ⟨au2, cu2, rfl, _, _⟩ := hF.length
  rw [show (oneR [50, 52, 53] [98, 99, 99, 113]).fields.length = 1 from rfl] at hF ⊢
  clear hT11 hWa11 b11 c
  go_wp2_with fail
  refine (CK1.out _ w12 hT12 _ hF).mono ?_
  rintro e w13 ⟨x, rfl, hP, c⟩
  have b13 := b12.trans (c.mono b12.size)
  have hWa13 := hWa12.after c
  obtain ⟨ap2, cq2, rfl, _, _⟩ := hP.length
  rw [show wantL.length = 3 from rfl] at hP ⊢
  clear hT12 hWa12 b12 c hF
  go_wp2_with fail
  refine (CSP.out _ _ _ _ hP hWa13).mono ?_
  rintro e w14 ⟨rfl, c⟩
  have b14 := b13.trans (c.mono b13.size)
  clear hP hWa13 b13 c
  go_wp2
  go_ret
  exact ⟨rfl, b14⟩
end Go.Proofs.YtjfdolmcecgdgaaDoor
