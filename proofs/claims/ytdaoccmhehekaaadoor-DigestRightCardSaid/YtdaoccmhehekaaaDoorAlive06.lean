/- The chapter's examples of layer 6, as the statements' function alive asks them: it returns true. -/
import Derived.Test.YtdaoccmhehekaaaDoorM06
namespace Go.Proofs.YtdaoccmhehekaaaDoor
open Go.RowKit Go.PlainAid

/-- A slice that the walk has just laid. -/
theorem BL.three (w : World) (x y z : List UInt8) : BL (.slice (some ⟨w.heap.size, 0, none⟩) 3 3) [x, y, z] (w.alloc (.cells #[strB x, strB y, strB z] 9)) := by
  refine ⟨_, 3, rfl, Nat.le_refl _, by decide, (fun h => by cases h), fun i hi => ⟨w.heap.size, 0, rfl, by simp, ?_⟩⟩
  match i, hi with
  | 0, _ => simp
  | 1, _ => simp
  | 2, _ => simp
  | (i + 3), hi => exact absurd hi (by simp)
theorem BL.two (w : World) (x y : List UInt8) : BL (.slice (some ⟨w.heap.size, 0, none⟩) 2 2) [x, y] (w.alloc (.cells #[strB x, strB y] 9)) := by
  refine ⟨_, 2, rfl, Nat.le_refl _, by decide, (fun h => by cases h), fun i hi => ⟨w.heap.size, 0, rfl, by simp, ?_⟩⟩
  match i, hi with
  | 0, _ => simp
  | 1, _ => simp
  | (i + 2), hi => exact absurd hi (by simp)
theorem BL.one (w : World) (x : List UInt8) : BL (.slice (some ⟨w.heap.size, 0, none⟩) 1 1) [x] (w.alloc (.cells #[strB x] 9)) := by
  refine ⟨_, 1, rfl, Nat.le_refl _, by decide, (fun h => by cases h), fun i hi => ⟨w.heap.size, 0, rfl, by simp, ?_⟩⟩
  match i, hi with
  | 0, _ => simp
  | (i + 1), hi => exact absurd hi (by simp)
theorem bound_of (L : List (List UInt8)) (n : Nat) (h : ∀ x ∈ L, x.length ≤ n) : ∀ i, i < L.length → (L.getD i []).length ≤ n := by
  intro i hi
  rw [List.getD_eq_getElem?_getD, List.getElem?_eq_getElem hi]
  exact h _ (List.getElem_mem hi)
/-! The examples' own lists. -/
set_option maxRecDepth 100000 in
theorem ex_root1 : rootL [[120]] = sumL [48, 120] := by
  unfold rootL leaves leafL
  rfl
set_option maxRecDepth 100000 in
theorem ex_root2 : rootL [[120], [121]] = joinL (sumL [48, 120]) (sumL [48, 121]) := by
  unfold rootL leaves
  rfl
set_option maxRecDepth 100000 in
theorem ex_proof2 : proofI [[120], [121], [122]] 2 = ([joinL (sumL [48, 120]) (sumL [48, 121])], 0) := by
  unfold proofI
  rfl
set_option maxRecDepth 100000 in
theorem ex_proof0 : proofI [[120], [121], [122]] 0 = ([sumL [48, 121], sumL [48, 122]], 0) := by
  unfold proofI
  rfl
set_option maxRecDepth 100000 in
theorem ex_proof1 : proofI [[120]] 1 = ([], 2) := by
  unfold proofI
  rfl

set_option maxHeartbeats 16000000 in
set_option maxRecDepth 100000 in
theorem alive_any (w : World) :
    Calls Tryd.prog 10 #[] w fun e w' => e = .returned (.bool true) ∧ Below w.heap.size w w' := by
  have hl1 : ∀ i, i < ([[120]] : List (List UInt8)).length → (([[120]] : List (List UInt8)).getD i []).length ≤ 1000 := bound_of _ _ (by decide)
  have hl2 : ∀ i, i < ([[120], [121]] : List (List UInt8)).length → (([[120], [121]] : List (List UInt8)).getD i []).length ≤ 1000 := bound_of _ _ (by decide)
  have hl3 : ∀ i, i < ([[120], [121], [122]] : List (List UInt8)).length → (([[120], [121], [122]] : List (List UInt8)).getD i []).length ≤ 1000 := bound_of _ _ (by decide)
  have zx : (sumL [48, 120]).length = 16 := sumL_length _
  have zy : (sumL [48, 121]).length = 16 := sumL_length _
  have S0 : RowKit.Hid (∀ W : World, Calls Tryd.prog 11 #[.string ⟨#[48, 120]⟩] W fun e w' => e = .returned (.string (S (sumL [48, 120]))) ∧ Below W.heap.size W w') := fun W => pSum [48, 120] (by decide) W
  have S1 : RowKit.Hid (∀ W : World, Calls Tryd.prog 11 #[.string ⟨#[48, 121]⟩] W fun e w' => e = .returned (.string (S (sumL [48, 121]))) ∧ Below W.heap.size W w') := fun W => pSum [48, 121] (by decide) W
  have S2 : RowKit.Hid (∀ W : World, Calls Tryd.prog 11 #[.string ⟨#[48, 122]⟩] W fun e w' => e = .returned (.string (S (sumL [48, 122]))) ∧ Below W.heap.size W w') := fun W => pSum [48, 122] (by decide) W
  have S3 : RowKit.Hid (∀ W : World, Calls Tryd.prog 11 #[.string ⟨#[]⟩] W fun e w' => e = .returned (.string (S (sumL []))) ∧ Below W.heap.size W w') := fun W => pSum [] (by decide) W
  have R0 : RowKit.Hid (∀ W : World, Calls Tryd.prog 15 #[.string ⟨#[48, 49, 50, 51, 52, 53, 54, 55, 56, 57, 97, 98, 99, 100, 101, 102]⟩] W fun e w' => e = .returned (.bool true) ∧ Below W.heap.size W w') := fun W => pRight [48, 49, 50, 51, 52, 53, 54, 55, 56, 57, 97, 98, 99, 100, 101, 102] true (by decide) W
  have R1 : RowKit.Hid (∀ W : World, Calls Tryd.prog 15 #[.string ⟨#[48, 49, 50, 51, 52, 53, 54, 55, 56, 57, 65, 66, 67, 68, 69, 70]⟩] W fun e w' => e = .returned (.bool false) ∧ Below W.heap.size W w') := fun W => pRight [48, 49, 50, 51, 52, 53, 54, 55, 56, 57, 65, 66, 67, 68, 69, 70] false (by decide) W
  have R2 : RowKit.Hid (∀ W : World, Calls Tryd.prog 15 #[.string ⟨#[]⟩] W fun e w' => e = .returned (.bool false) ∧ Below W.heap.size W w') := fun W => pRight [] false (by decide) W
  have P2 := Lib.hid (fun v W (h : BL v [[120], [121], [122]] W) => pProof _ (by decide) hl3 2 v W h _ _ ex_proof2)
  have P0 := Lib.hid (fun v W (h : BL v [[120], [121], [122]] W) => pProof _ (by decide) hl3 0 v W h _ _ ex_proof0)
  have P1 := Lib.hid (fun v W (h : BL v [[120]] W) => pProof _ (by decide) hl1 1 v W h _ _ ex_proof1)
  have R3 := Lib.hid (fun W => pRight (sumL []) true (sumL_right _) W)
  have T1 := Lib.hid (fun v W (h : BL v [[120]] W) => pRoot _ (by decide) hl1 v W h)
  have T2 := Lib.hid (fun v W (h : BL v [[120], [121]] W) => pRoot _ (by decide) hl2 v W h)
  have J := Lib.hid (fun W => pJoin (sumL [48, 120]) (sumL [48, 121]) (by omega) (by omega) W)
  rw [ex_root1] at T1
  rw [ex_root2] at T2
  have M1 := Lib.hid (fun (A B : List (List UInt8)) va vb W (hA : BL va A W) (hB : BL vb B W) (h : A = B) => refSame_any A B va vb W hA hB true (decide_eq_true h))
  have B3 : RowKit.Hid (∀ W : World, BL (.slice (some ⟨W.heap.size, 0, none⟩) 3 3) [[120], [121], [122]] (W.alloc (.cells #[.string ⟨#[120]⟩, .string ⟨#[121]⟩, .string ⟨#[122]⟩] 9))) := fun W => BL.three W [120] [121] [122]
  have B2 : RowKit.Hid (∀ W : World, BL (.slice (some ⟨W.heap.size, 0, none⟩) 2 2) [[120], [121]] (W.alloc (.cells #[.string ⟨#[120]⟩, .string ⟨#[121]⟩] 9))) := fun W => BL.two W [120] [121]
  have B1 : RowKit.Hid (∀ W : World, BL (.slice (some ⟨W.heap.size, 0, none⟩) 1 1) [[120]] (W.alloc (.cells #[.string ⟨#[120]⟩] 9))) := fun W => BL.one W [120]
  have B1s : RowKit.Hid (∀ (W : World) (x : List UInt8), BL (.slice (some ⟨W.heap.size, 0, none⟩) 1 1) [x] (W.alloc (.cells #[.string (S x)] 9))) := fun W x => BL.one W x
  have B2s : RowKit.Hid (∀ (W : World) (x y : List UInt8), BL (.slice (some ⟨W.heap.size, 0, none⟩) 2 2) [x, y] (W.alloc (.cells #[.string (S x), .string (S y)] 9))) := fun W x y => BL.two W x y
  clear hl1 hl2 hl3
  generalize joinL (sumL [48, 120]) (sumL [48, 121]) = jj at *
  generalize sumL [48, 120] = x at *
  generalize sumL [48, 121] = y at *
  generalize sumL [48, 122] = z at *
  generalize sumL [] = o at *
  have b0 := Below.refl w.heap.size w
  go_enter Tryd.func10, Tryd.ntmps10
  go_wp2_with fail
  refine (S0.out _).mono ?_
  rintro e w1 ⟨rfl, c⟩
  have b1 := b0.trans (c.mono b0.size)
  clear c b0
  go_wp2_with fail
  refine (S1.out _).mono ?_
  rintro e w2 ⟨rfl, c⟩
  have b2 := b1.trans (c.mono b1.size)
  clear c b1
  go_wp2_with fail
  refine (S2.out _).mono ?_
  rintro e w3 ⟨rfl, c⟩
  have b3 := b2.trans (c.mono b2.size)
  clear c b2
  have ca := (Below.refl w3.heap.size w3).alloc (Nat.le_refl _) (.cells #[.string ⟨#[120]⟩, .string ⟨#[121]⟩, .string ⟨#[122]⟩] 9)
  have b4 := b3.trans (ca.mono b3.size)
  clear ca b3
  have hL := B3.out w3
  go_wp2_with fail
  refine (P2.out _ _ hL).mono ?_
  rintro e w5 ⟨v2, rfl, hV2, c⟩
  have b5 := b4.trans (c.mono b4.size)
  replace hL := hL.after c
  clear c b4
  go_wp2_with fail
  refine (P0.out _ _ hL).mono ?_
  rintro e w6 ⟨v0, rfl, hV0, c⟩
  have b6 := b5.trans (c.mono b5.size)
  replace hL := hL.after c
  replace hV2 := hV2.after c
  clear c b5
  clear hL
  have ca := (Below.refl w6.heap.size w6).alloc (Nat.le_refl _) (.cells #[.string ⟨#[120]⟩] 9)
  have b7 := b6.trans (ca.mono b6.size)
  replace hV2 := hV2.after ca
  replace hV0 := hV0.after ca
  clear ca b6
  go_wp2_with fail
  refine (P1.out _ _ (B1.out _)).mono ?_
  rintro e w8 ⟨v1, rfl, _, c⟩
  have b8 := b7.trans (c.mono b7.size)
  replace hV2 := hV2.after c
  replace hV0 := hV0.after c
  clear c b7
  go_wp2_with fail
  refine (R0.out _).mono ?_
  rintro e w9 ⟨rfl, c⟩
  have b9 := b8.trans (c.mono b8.size)
  replace hV2 := hV2.after c
  replace hV0 := hV0.after c
  clear c b8
  go_wp2_with fail
  refine (R1.out _).mono ?_
  rintro e w10 ⟨rfl, c⟩
  have b10 := b9.trans (c.mono b9.size)
  replace hV2 := hV2.after c
  replace hV0 := hV0.after c
  clear c b9
  go_wp2_with fail
  refine (R2.out _).mono ?_
  rintro e w11 ⟨rfl, c⟩
  have b11 := b10.trans (c.mono b10.size)
  replace hV2 := hV2.after c
  replace hV0 := hV0.after c
  clear c b10
  go_wp2_with fail
  refine (S3.out _).mono ?_
  rintro e w12 ⟨rfl, c⟩
  have b12 := b11.trans (c.mono b11.size)
  replace hV2 := hV2.after c
  replace hV0 := hV0.after c
  clear c b11
  go_wp2_with fail
  refine (R3.out _).mono ?_
  rintro e w13 ⟨rfl, c⟩
  have b13 := b12.trans (c.mono b12.size)
  replace hV2 := hV2.after c
  replace hV0 := hV0.after c
  clear c b12
  have ca := (Below.refl w13.heap.size w13).alloc (Nat.le_refl _) (.cells #[.string ⟨#[120]⟩] 9)
  have b14 := b13.trans (ca.mono b13.size)
  replace hV2 := hV2.after ca
  replace hV0 := hV0.after ca
  clear ca b13
  go_wp2_with fail
  refine (T1.out _ _ (B1.out _)).mono ?_
  rintro e w15 ⟨rfl, c⟩
  have b15 := b14.trans (c.mono b14.size)
  replace hV2 := hV2.after c
  replace hV0 := hV0.after c
  clear c b14
  have ca := (Below.refl w15.heap.size w15).alloc (Nat.le_refl _) (.cells #[.string ⟨#[120]⟩, .string ⟨#[121]⟩] 9)
  have b16 := b15.trans (ca.mono b15.size)
  replace hV2 := hV2.after ca
  replace hV0 := hV0.after ca
  clear ca b15
  go_wp2_with fail
  refine (T2.out _ _ (B2.out _)).mono ?_
  rintro e w17 ⟨rfl, c⟩
  have b17 := b16.trans (c.mono b16.size)
  replace hV2 := hV2.after c
  replace hV0 := hV0.after c
  clear c b16
  go_wp2_with fail
  refine (J.out _).mono ?_
  rintro e w18 ⟨rfl, c⟩
  have b18 := b17.trans (c.mono b17.size)
  replace hV2 := hV2.after c
  replace hV0 := hV0.after c
  clear c b17
  go_wp2_with fail
  refine (J.out _).mono ?_
  rintro e w19 ⟨rfl, c⟩
  have b19 := b18.trans (c.mono b18.size)
  replace hV2 := hV2.after c
  replace hV0 := hV0.after c
  clear c b18
  have ca := (Below.refl w19.heap.size w19).alloc (Nat.le_refl _) (.cells #[.string (S jj)] 9)
  have b20 := b19.trans (ca.mono b19.size)
  replace hV2 := hV2.after ca
  replace hV0 := hV0.after ca
  clear ca b19
  go_wp2_with fail
  refine (M1.out _ _ _ _ _ hV2 (B1s.out _ _) rfl).mono ?_
  rintro e w21 ⟨rfl, c⟩
  have b21 := b20.trans (c.mono b20.size)
  replace hV2 := hV2.after c
  replace hV0 := hV0.after c
  clear c b20
  have ca := (Below.refl w21.heap.size w21).alloc (Nat.le_refl _) (.cells #[.string (S y), .string (S z)] 9)
  have b22 := b21.trans (ca.mono b21.size)
  replace hV0 := hV0.after ca
  clear ca b21
  go_wp2_with fail
  refine (M1.out _ _ _ _ _ hV0 (B2s.out _ _ _) rfl).mono ?_
  rintro e w23 ⟨rfl, c⟩
  have b23 := b22.trans (c.mono b22.size)
  replace hV0 := hV0.after c
  clear c b22
  go_wp2
  go_ret
  exact ⟨rfl, b23⟩
end Go.Proofs.YtdaoccmhehekaaaDoor
