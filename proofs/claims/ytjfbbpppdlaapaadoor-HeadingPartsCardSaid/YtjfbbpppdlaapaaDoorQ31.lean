/- Merged: Am12, Tx12. -/
import Derived.Test.YtjfbbpppdlaapaaDoorQ30
import Derived.Test.YtjfbbpppdlaapaaDoorQ26
namespace Go.Proofs.YtjfbbpppdlaapaaDoor

section
open Go.RowKit Go.PlainAid
def SP.bl12 (L : List (List UInt8)) : SP := ⟨fun v w => BL v L w, fun _ _ _ h hb => h.after hb⟩
theorem bl_nil12 (w : World) : BL (.slice Option.none 0 0) [] w := ⟨Option.none, 0, rfl, Nat.le_refl _, Nat.zero_le _, fun _ => rfl, fun i hi => by cases hi⟩
theorem bl_two12 (w : World) (x y : List UInt8) : BL (.slice (some ⟨w.heap.size, 0, none⟩) 2 2) [x, y] (w.alloc (.cells #[.string (S x), .string (S y)] 9)) := by
  have hc := heap_alloc_new w (.cells #[.string (S x), .string (S y)] 9)
  refine ⟨_, 2, rfl, Nat.le_refl _, by unfold maxLen; omega, (fun h => by cases h), fun i hi => ⟨w.heap.size, 0, rfl, by simp, ?_⟩⟩
  rw [Lib.cell_of_heap hc]
  match i, hi with
  | 0, _ => rfl
  | 1, _ => rfl

set_option maxHeartbeats 16000000 in
set_option maxRecDepth 100000 in
theorem lalive12_any (w : World) (hE : Env w) :
    Calls Tryd.prog 11 #[] w fun e w' => e = .returned (.bool true) ∧ Below w.heap.size w w' := by
  obtain ⟨Q, hQ⟩ : ∃ Q, (fun (e : Ending) (w' : World) => e = .returned (.bool true) ∧ Below w.heap.size w w') = Q := ⟨_, rfl⟩
  rw [hQ]
  have HQ : RowKit.Hid (∀ e w', (e = .returned (.bool true) ∧ Below w.heap.size w w') → Q e w') := by rw [← hQ]; exact fun _ _ h => h
  clear hQ
  have HE0 := Lib.hid hE
  have B0 := Lib.hid (Below.refl w.heap.size w)
  have c1 : RowKit.Hid (∀ W, Env W → Calls Tryd.prog 25 #[.string ⟨#[68, 97, 114, 119, 105, 110, 44, 32, 67, 104, 97, 114, 108, 101, 115, 44, 32, 49, 56, 48, 57, 45, 49, 56, 56, 50]⟩] W fun e w' => e = .returned (.tuple #[.agg #[.string ⟨#[68, 97, 114, 119, 105, 110]⟩, .string ⟨#[67, 104, 97, 114, 108, 101, 115]⟩, .string ⟨#[49, 56, 48, 57, 45, 49, 56, 56, 50]⟩], .int .i64 0]) ∧ Below W.heap.size W w') := fun W hW => pName12_any [68, 97, 114, 119, 105, 110, 44, 32, 67, 104, 97, 114, 108, 101, 115, 44, 32, 49, 56, 48, 57, 45, 49, 56, 56, 50] (by decide) _ 0 al12_n W hW
  have c2 : RowKit.Hid (∀ W, Env W → Calls Tryd.prog 25 #[.string ⟨#[80, 108, 97, 116, 111, 44, 32, 49, 57, 48, 48, 45]⟩] W fun e w' => e = .returned (.tuple #[.agg #[.string ⟨#[80, 108, 97, 116, 111]⟩, .string ⟨#[]⟩, .string ⟨#[49, 57, 48, 48, 45]⟩], .int .i64 0]) ∧ Below W.heap.size W w') := fun W hW => pName12_any [80, 108, 97, 116, 111, 44, 32, 49, 57, 48, 48, 45] (by decide) _ 0 al12_m W hW
  have c3 : RowKit.Hid (∀ W, Env W → Calls Tryd.prog 25 #[.string ⟨#[97, 44, 98]⟩] W fun e w' => e = .returned (.tuple #[.agg #[.string ⟨#[]⟩, .string ⟨#[]⟩, .string ⟨#[]⟩], .int .i64 3]) ∧ Below W.heap.size W w') := fun W hW => pName12_any [97, 44, 98] (by decide) _ 3 al12_g W hW
  have c4 : RowKit.Hid (∀ W, Env W → Calls Tryd.prog 27 #[.agg #[.string ⟨#[80, 108, 97, 116, 111]⟩, .string ⟨#[49, 57, 48, 48, 45]⟩, .string ⟨#[]⟩]] W fun e w' => e = .returned (.tuple #[.string ⟨#[]⟩, .int .i64 3]) ∧ Below W.heap.size W w') := fun W hW => pText12_any ([80, 108, 97, 116, 111], [49, 57, 48, 48, 45], []) (by decide) (by decide) (by decide) _ 3 al12_h W hW
  have c5 : RowKit.Hid (∀ W, Env W → Calls Tryd.prog 21 #[.slice (some ⟨W.heap.size, 0, none⟩) 2 2] (W.alloc (.cells #[.string ⟨#[97]⟩, .string ⟨#[45, 98]⟩] 9)) fun e w' => e = .returned (.tuple #[.string ⟨#[]⟩, .int .i64 3]) ∧ Below W.heap.size W w') := by
    intro W hW
    have hb0 := (Below.refl W.heap.size W).alloc (Nat.le_refl _) (.cells #[.string ⟨#[97]⟩, .string ⟨#[45, 98]⟩] 9)
    refine (pJoin12_any [[97], [45, 98]] _ _ (hW.after hb0) (bl_two12 W [97] [45, 98]) (by decide) (by decide) _ 3 al12_i).mono ?_
    rintro e w' ⟨rfl, hb⟩
    exact ⟨rfl, hb0.trans (hb.mono hb0.size)⟩
  have c6 : RowKit.Hid (∀ W, Env W → Calls Tryd.prog 21 #[.slice none 0 0] W fun e w' => e = .returned (.tuple #[.string ⟨#[]⟩, .int .i64 8]) ∧ Below W.heap.size W w') := fun W hW => pJoin12_any [] _ W hW (bl_nil12 W) (by decide) (by decide) _ 8 al12_j
  have cNm : RowKit.Hid (∀ W, Env W → Calls Tryd.prog 16 #[.string ⟨#[68, 111, 103, 115, 32, 45, 45, 32, 32, 84, 114, 97, 105, 110, 105, 110, 103, 32, 45, 45, 32]⟩] W fun e w' => e = .returned (.string ⟨#[100, 111, 103, 115, 45, 45, 116, 114, 97, 105, 110, 105, 110, 103]⟩) ∧ Below W.heap.size W w') := fun W hW => (by have c := pNorm12_any [68, 111, 103, 115, 32, 45, 45, 32, 32, 84, 114, 97, 105, 110, 105, 110, 103, 32, 45, 45, 32] (by decide +kernel) (by decide) W hW; rw [al12_norm] at c; exact c)
  have cS1 : RowKit.Hid (∀ W, Env W → Calls Tryd.prog 18 #[.string ⟨#[68, 111, 103, 115]⟩, .string ⟨#[68, 79, 71, 83, 46]⟩] W fun e w' => e = .returned (.bool true) ∧ Below W.heap.size W w') := fun W hW => (by have c := pSame12_any [68, 111, 103, 115] [68, 79, 71, 83, 46] (by decide +kernel) (by decide) (by decide +kernel) (by decide) W hW; rw [al12_s] at c; exact c)
  have cS2 : RowKit.Hid (∀ W, Env W → Calls Tryd.prog 18 #[.string ⟨#[45, 45]⟩, .string ⟨#[45, 45]⟩] W fun e w' => e = .returned (.bool false) ∧ Below W.heap.size W w') := fun W hW => (by have c := pSame12_any [45, 45] [45, 45] (by decide +kernel) (by decide) (by decide +kernel) (by decide) W hW; rw [al12_t] at c; exact c)
  have cP : RowKit.Hid (∀ W, Env W → Calls Tryd.prog 14 #[.string ⟨#[97, 45, 45, 45, 98]⟩] W fun e w' => ∃ v, e = .returned v ∧ BL v [[97], [45, 98]] w' ∧ Below W.heap.size W w') := fun W hW => (by have c := pParts12_any [97, 45, 45, 45, 98] (by decide +kernel) (by decide) W hW; rw [al12_p] at c; exact c)
  have cA : RowKit.Hid (∀ W, Env W → Calls Tryd.prog 23 #[.string ⟨#[65, 114, 116, 45, 45, 72, 105, 115, 116, 111, 114, 121, 45, 45, 70, 114, 97, 110, 99, 101]⟩] W fun e w' => ∃ v, e = .returned v ∧ BL v [[65, 114, 116, 45, 45, 72, 105, 115, 116, 111, 114, 121], [65, 114, 116]] w' ∧ Below W.heap.size W w') := fun W hW => (by have c := pAbove12_any [65, 114, 116, 45, 45, 72, 105, 115, 116, 111, 114, 121, 45, 45, 70, 114, 97, 110, 99, 101] (by decide +kernel) (by decide) W hW; rw [al12_a] at c; exact c)
  have HL1 : RowKit.Hid (∀ W : World, BL (.slice (some ⟨W.heap.size, 0, none⟩) 2 2) [[97], [45, 98]] (W.alloc (.cells #[.string ⟨#[97]⟩, .string ⟨#[45, 98]⟩] 9))) := fun W => bl_two12 W _ _
  have HL2 : RowKit.Hid (∀ W : World, BL (.slice (some ⟨W.heap.size, 0, none⟩) 2 2) [[65, 114, 116, 45, 45, 72, 105, 115, 116, 111, 114, 121], [65, 114, 116]] (W.alloc (.cells #[.string ⟨#[65, 114, 116, 45, 45, 72, 105, 115, 116, 111, 114, 121]⟩, .string ⟨#[65, 114, 116]⟩] 9))) := fun W => bl_two12 W _ _
  have hEqA : ∀ W, (Op.equalIn 10000 34 (.agg #[.string ⟨#[68, 97, 114, 119, 105, 110]⟩, .string ⟨#[67, 104, 97, 114, 108, 101, 115]⟩, .string ⟨#[49, 56, 48, 57, 45, 49, 56, 56, 50]⟩]) (.agg #[.string ⟨#[68, 97, 114, 119, 105, 110]⟩, .string ⟨#[67, 104, 97, 114, 108, 101, 115]⟩, .string ⟨#[49, 56, 48, 57, 45, 49, 56, 56, 50]⟩])).run Tryd.prog W = .ok true W := fun W => (eqIn_nm ([68, 97, 114, 119, 105, 110], [67, 104, 97, 114, 108, 101, 115], [49, 56, 48, 57, 45, 49, 56, 56, 50]) ([68, 97, 114, 119, 105, 110], [67, 104, 97, 114, 108, 101, 115], [49, 56, 48, 57, 45, 49, 56, 56, 50]) W).trans (by rw [decide_eq_true rfl])
  have hEqB : ∀ W, (Op.equalIn 10000 34 (.agg #[.string ⟨#[80, 108, 97, 116, 111]⟩, .string ⟨#[]⟩, .string ⟨#[49, 57, 48, 48, 45]⟩]) (.agg #[.string ⟨#[80, 108, 97, 116, 111]⟩, .string ⟨#[]⟩, .string ⟨#[49, 57, 48, 48, 45]⟩])).run Tryd.prog W = .ok true W := fun W => (eqIn_nm ([80, 108, 97, 116, 111], [], [49, 57, 48, 48, 45]) ([80, 108, 97, 116, 111], [], [49, 57, 48, 48, 45]) W).trans (by rw [decide_eq_true rfl])
  clear hE
  go_enter Tryd.func11, Tryd.ntmps11
  go_upto_region 1 with fail
  go_wp2_with fail
  refine (c1.out w (HE0.out.after B0.out)).mono ?_
  rintro e w1 ⟨rfl, hb1⟩
  have hA1 := (Below.refl w1.heap.size w1).alloc (Nat.le_refl _) (.cells #[.string ⟨#[68, 97, 114, 119, 105, 110]⟩, .string ⟨#[67, 104, 97, 114, 108, 101, 115]⟩, .string ⟨#[49, 56, 48, 57, 45, 49, 56, 56, 50]⟩] 34)
  have hN1 := heap_alloc_new w1 (.cells #[.string ⟨#[68, 97, 114, 119, 105, 110]⟩, .string ⟨#[67, 104, 97, 114, 108, 101, 115]⟩, .string ⟨#[49, 56, 48, 57, 45, 49, 56, 56, 50]⟩] 34)
  obtain ⟨V1, hV1⟩ : ∃ W, w1.alloc (.cells #[.string ⟨#[68, 97, 114, 119, 105, 110]⟩, .string ⟨#[67, 104, 97, 114, 108, 101, 115]⟩, .string ⟨#[49, 56, 48, 57, 45, 49, 56, 56, 50]⟩] 34) = W := ⟨_, rfl⟩
  have hs1 : w1.heap.size < V1.heap.size := by rw [← hV1]; simp
  rw [hV1] at hA1 hN1
  have B1 := Lib.hid (B0.out.trans ((hb1.trans (hA1.mono hb1.size)).mono B0.out.size))
  have hbk1 := Lib.hid (fun (W : World) (h : Below V1.heap.size V1 W) => (h.block w1.heap.size hs1).trans hN1)
  have HV1 := Lib.hid hV1
  clear hb1 hA1 hV1 hs1 hN1 c1
  go_upto_region 2 with fail
  rw [HV1.out]
  clear HV1
  obtain ⟨b1, hbb1⟩ : ∃ b, w1.heap.size = b := ⟨_, rfl⟩
  rw [hbb1] at hbk1 ⊢
  clear hbb1
  go_wp2_with fail
  refine (c2.out V1 (HE0.out.after B1.out)).mono ?_
  rintro e w2 ⟨rfl, hb2⟩
  have hA2 := (Below.refl w2.heap.size w2).alloc (Nat.le_refl _) (.cells #[.string ⟨#[80, 108, 97, 116, 111]⟩, .string ⟨#[]⟩, .string ⟨#[49, 57, 48, 48, 45]⟩] 34)
  have hN2 := heap_alloc_new w2 (.cells #[.string ⟨#[80, 108, 97, 116, 111]⟩, .string ⟨#[]⟩, .string ⟨#[49, 57, 48, 48, 45]⟩] 34)
  obtain ⟨V2, hV2⟩ : ∃ W, w2.alloc (.cells #[.string ⟨#[80, 108, 97, 116, 111]⟩, .string ⟨#[]⟩, .string ⟨#[49, 57, 48, 48, 45]⟩] 34) = W := ⟨_, rfl⟩
  have hs2 : w2.heap.size < V2.heap.size := by rw [← hV2]; simp
  rw [hV2] at hA2 hN2
  have B2 := Lib.hid (B1.out.trans ((hb2.trans (hA2.mono hb2.size)).mono B1.out.size))
  replace hbk1 := Lib.hid (fun (W : World) (h : Below V2.heap.size V2 W) => hbk1.out W ((hb2.trans (hA2.mono hb2.size)).trans (h.mono (hb2.trans (hA2.mono hb2.size)).size)))
  have hbk2 := Lib.hid (fun (W : World) (h : Below V2.heap.size V2 W) => (h.block w2.heap.size hs2).trans hN2)
  have HV2 := Lib.hid hV2
  clear hb2 hA2 hV2 hs2 hN2 c2
  go_upto_region 3 with fail
  rw [HV2.out]
  clear HV2
  obtain ⟨b2, hbb2⟩ : ∃ b, w2.heap.size = b := ⟨_, rfl⟩
  rw [hbb2] at hbk2 ⊢
  clear hbb2
  go_wp2_with fail
  refine (c3.out V2 (HE0.out.after B2.out)).mono ?_
  rintro e w3 ⟨rfl, hb3⟩
  have hA3 := (Below.refl w3.heap.size w3).alloc (Nat.le_refl _) (.cells #[.string ⟨#[]⟩, .string ⟨#[]⟩, .string ⟨#[]⟩] 34)
  have hN3 := heap_alloc_new w3 (.cells #[.string ⟨#[]⟩, .string ⟨#[]⟩, .string ⟨#[]⟩] 34)
  obtain ⟨V3, hV3⟩ : ∃ W, w3.alloc (.cells #[.string ⟨#[]⟩, .string ⟨#[]⟩, .string ⟨#[]⟩] 34) = W := ⟨_, rfl⟩
  have hs3 : w3.heap.size < V3.heap.size := by rw [← hV3]; simp
  rw [hV3] at hA3 hN3
  have B3 := Lib.hid (B2.out.trans ((hb3.trans (hA3.mono hb3.size)).mono B2.out.size))
  replace hbk1 := Lib.hid (fun (W : World) (h : Below V3.heap.size V3 W) => hbk1.out W ((hb3.trans (hA3.mono hb3.size)).trans (h.mono (hb3.trans (hA3.mono hb3.size)).size)))
  replace hbk2 := Lib.hid (fun (W : World) (h : Below V3.heap.size V3 W) => hbk2.out W ((hb3.trans (hA3.mono hb3.size)).trans (h.mono (hb3.trans (hA3.mono hb3.size)).size)))
  have hbk3 := Lib.hid (fun (W : World) (h : Below V3.heap.size V3 W) => (h.block w3.heap.size hs3).trans hN3)
  have HV3 := Lib.hid hV3
  clear hb3 hA3 hV3 hs3 hN3 c3
  go_upto_region 4 with fail
  rw [HV3.out]
  clear HV3
  obtain ⟨b3, hbb3⟩ : ∃ b, w3.heap.size = b := ⟨_, rfl⟩
  rw [hbb3] at hbk3 ⊢
  clear hbb3
  go_wp2_with fail
  refine (c4.out V3 (HE0.out.after B3.out)).mono ?_
  rintro e w4 ⟨rfl, hb4⟩
  have B4 := Lib.hid (B3.out.trans (hb4.mono B3.out.size))
  have D4 := Lib.hid hb4
  clear hb4 c4
  go_wp2_with fail
  refine (c5.out w4 (HE0.out.after B4.out)).mono ?_
  rintro e w5 ⟨rfl, hb5⟩
  have B5 := Lib.hid (B4.out.trans (hb5.mono B4.out.size))
  have D5 := Lib.hid (D4.out.trans (hb5.mono D4.out.size))
  clear hb5 c5 D4
  go_wp2_with fail
  refine (c6.out w5 (HE0.out.after B5.out)).mono ?_
  rintro e w6 ⟨rfl, hb6⟩
  have B6 := Lib.hid (B5.out.trans (hb6.mono B5.out.size))
  have D6 := Lib.hid (D5.out.trans (hb6.mono D5.out.size))
  clear hb6 c6 D5
  have HE := Lib.hid (fun (W : World) (h : Below w6.heap.size w6 W) => HE0.out.after (B6.out.trans (h.mono B6.out.size)))
  have HBa := Lib.hid (fun (W : World) (h : Below w6.heap.size w6 W) => hbk1.out W (D6.out.trans (h.mono D6.out.size)))
  have HBb := Lib.hid (fun (W : World) (h : Below w6.heap.size w6 W) => hbk2.out W (D6.out.trans (h.mono D6.out.size)))
  clear hbk1 hbk2 hbk3 HE0 B0 B1 B2 B3 B4 B5 D6
  have D6 := Lib.hid (Below.refl w6.heap.size w6)
  go_wp2_with fail
  refine (cNm.out w6 (HE.out w6 D6.out)).mono ?_
  rintro e w7 ⟨rfl, hb7⟩
  have D7 := Lib.hid (D6.out.trans (hb7.mono D6.out.size))
  clear hb7 D6 cNm
  go_wp2_with fail
  refine (cS1.out w7 (HE.out w7 D7.out)).mono ?_
  rintro e w8 ⟨rfl, hb8⟩
  have D8 := Lib.hid (D7.out.trans (hb8.mono D7.out.size))
  clear hb8 D7 cS1
  go_wp2_with fail
  refine (cS2.out w8 (HE.out w8 D8.out)).mono ?_
  rintro e w9 ⟨rfl, hb9⟩
  have D9 := Lib.hid (D8.out.trans (hb9.mono D8.out.size))
  clear hb9 D8 cS2
  go_wp2_with fail
  refine (cP.out w9 (HE.out w9 D9.out)).mono ?_
  rintro e w10 ⟨v10, rfl, hr10, hb10⟩
  have D10 := Lib.hid (D9.out.trans (hb10.mono D9.out.size))
  clear hb10 D9 cP
  have u1 := Lib.hid (hr10.after ((Below.refl w10.heap.size w10).alloc (Nat.le_refl _) (.cells #[.string ⟨#[97]⟩, .string ⟨#[45, 98]⟩] 9)))
  have cQ := Lib.hid (refSameList_eq _ _ _ _ u1.out (HL1.out w10))
  have bQ := (Below.refl w10.heap.size w10).alloc (Nat.le_refl _) (.cells #[.string ⟨#[97]⟩, .string ⟨#[45, 98]⟩] 9)
  obtain ⟨a10, p10, rfl, -, -⟩ := hr10.length
  have BQ := Lib.hid bQ
  clear u1 hr10 bQ
  go_wp2_with fail
  refine cQ.out.mono ?_
  rintro e w11 ⟨rfl, hb11⟩
  have D11 := Lib.hid (D10.out.trans ((BQ.out.trans (hb11.mono BQ.out.size)).mono D10.out.size))
  clear hb11 D10 cQ BQ HL1
  go_wp2_with fail
  refine (cA.out w11 (HE.out w11 D11.out)).mono ?_
  rintro e w12 ⟨v12, rfl, hr12, hb12⟩
  have D12 := Lib.hid (D11.out.trans (hb12.mono D11.out.size))
  clear hb12 D11 cA
  have u1 := Lib.hid (hr12.after ((Below.refl w12.heap.size w12).alloc (Nat.le_refl _) (.cells #[.string ⟨#[65, 114, 116, 45, 45, 72, 105, 115, 116, 111, 114, 121]⟩, .string ⟨#[65, 114, 116]⟩] 9)))
  have cQ := Lib.hid (refSameList_eq _ _ _ _ u1.out (HL2.out w12))
  have bQ := (Below.refl w12.heap.size w12).alloc (Nat.le_refl _) (.cells #[.string ⟨#[65, 114, 116, 45, 45, 72, 105, 115, 116, 111, 114, 121]⟩, .string ⟨#[65, 114, 116]⟩] 9)
  obtain ⟨a12, p12, rfl, -, -⟩ := hr12.length
  have BQ := Lib.hid bQ
  clear u1 hr12 bQ
  go_wp2_with fail
  refine cQ.out.mono ?_
  rintro e w13 ⟨rfl, hb13⟩
  have D13 := Lib.hid (D12.out.trans ((BQ.out.trans (hb13.mono BQ.out.size)).mono D12.out.size))
  clear hb13 D12 cQ BQ HL2
  obtain ⟨⟨x0, x1, x2⟩, -⟩ := ncells (HBa.out w13 D13.out)
  obtain ⟨⟨y0, y1, y2⟩, -⟩ := ncells (HBb.out w13 D13.out)
  go_wp2_with fail
  exact HQ.out _ _ ⟨rfl, B6.out.trans (D13.out.mono B6.out.size)⟩
end

section
open Go.RowKit Go.PlainAid
def okT (l : List UInt8) : Bool := decide (l.length ≤ 1000) && validT l
theorem okT_out (l : List UInt8) (h : okT l = true) : l.length ≤ 1000 ∧ validT l = true := by
  unfold okT at h
  rw [Bool.and_eq_true] at h
  exact ⟨of_decide_eq_true h.1, h.2⟩
set_option maxHeartbeats 4000000 in
theorem ltext12_any (l : List UInt8) (w : World) :
    Calls Tryd.prog 12 #[.string (S l)] w fun e w' => e = .returned (.bool (okT l)) ∧ Below w.heap.size w w' := by
  have hsz := S_size l
  unfold okT
  by_cases h : l.length ≤ 1000
  · have c := Lib.hid (refValid_any (S l) (by rw [hsz]; omega) w)
    rw [S_list] at c
    rw [decide_eq_true h, Bool.true_and]
    have t1 : decide (((S l).size : Int) ≤ 1000) = true := decide_eq_true (by omega)
    go_enter Tryd.func12, Tryd.ntmps12
    go_wp2_with fail
    refine c.out.mono ?_
    rintro e w1 ⟨rfl, hb⟩
    go_wp2
    first | exact ⟨rfl, hb⟩ | (go_ret; exact ⟨rfl, hb⟩)
  · rw [decide_eq_false h, Bool.false_and]
    have t1 : decide (((S l).size : Int) ≤ 1000) = false := decide_eq_false (by omega)
    go_enter Tryd.func12, Tryd.ntmps12
    go_wp2_with fail
    first | exact ⟨rfl, Below.refl _ _⟩ | (go_ret; exact ⟨rfl, Below.refl _ _⟩)
def shortOk (L : List (List UInt8)) : Prop := L.length ≤ 60 ∧ ∀ x ∈ L, x.length ≤ 1000
set_option maxHeartbeats 8000000 in
theorem lshort12_any (L : List (List UInt8)) (v : Value) (w : World) (hv : BL v L w) :
    Calls Tryd.prog 20 #[v] w fun e w' => ∃ b, e = .returned (.bool b) ∧ (b = true → shortOk L) ∧ w' = w := by
  obtain ⟨Q, hQ⟩ : ∃ Q, (fun (e : Ending) (w' : World) => ∃ b, e = .returned (.bool b) ∧ (b = true → shortOk L) ∧ w' = w) = Q := ⟨_, rfl⟩
  rw [hQ]
  have HF : RowKit.Hid (Q (.returned (.bool false)) w) := by rw [← hQ]; exact ⟨false, rfl, (fun h => by cases h), rfl⟩
  have HT : RowKit.Hid (shortOk L → Q (.returned (.bool true)) w) := by rw [← hQ]; exact fun h => ⟨true, rfl, fun _ => h, rfl⟩
  have HV := Lib.hid hv
  obtain ⟨a, cap, rfl, hc1, hc2⟩ := hv.length
  obtain ⟨n, hn⟩ : ∃ n, L.length = n := ⟨_, rfl⟩
  have HN := Lib.hid hn
  rw [hn] at HV hc1 ⊢
  unfold maxLen at hc2
  clear hv hQ hn
  go_enter Tryd.func20, Tryd.ntmps20
  go_upto_region 1 with fail
  by_cases h60 : n ≤ 60
  · have t1 : decide ((60 : Int) < (n : Int)) = false := decide_eq_false (by omega)
    go_wp2
    go_loopw [3] (fun i wr => ∃ k : Nat, i = .int .i64 (k : Int) ∧ k ≤ n ∧ RowKit.Hid (∀ j, j < k → (L.getD j []).length ≤ 1000) ∧ w = wr) (fun i _ => n - (intOf i).toNat)
    case atStart => exact ⟨0, rfl, Nat.zero_le _, (fun j hj => by omega), rfl⟩
    case round =>
      obtain ⟨k, rfl, hk, HJ, rfl⟩ := hrel
      by_cases hkn : k < n
      · have i1 : (0 : Int) ≤ (k : Int) := by omega
        have i2 : (k : Int) < (n : Int) := by omega
        obtain ⟨g, o, cap', he, hg, c0⟩ := HV.out.at12 k (by rw [HN.out]; exact hkn)
        obtain ⟨rfl, -, hcp⟩ := Value.slice.inj he
        have hz := S_size (L.getD k [])
        by_cases hx : (L.getD k []).length ≤ 1000
        · have t2 : decide ((1000 : Int) < ((S (L.getD k [])).size : Int)) = false := decide_eq_false (by omega)
          have HJ2 : RowKit.Hid (∀ j, j < k + 1 → (L.getD j []).length ≤ 1000) := by
            intro j hj
            rcases Nat.lt_or_ge j k with h | h
            · exact HJ.out j h
            · rw [show j = k by omega]; exact hx
          clear HF HT hx hz HJ he hcp
          generalize S (L.getD k []) = sx at *
          go_wp2
          go_roundw
          case rel => first | exact ⟨k + 1, by go_num, by omega, HJ2.out, rfl⟩ | exact ⟨k + 1, by go_num, by omega, HJ2.out, trivial⟩
          case measure => simp [intOf]; omega
        · have t2 : decide ((1000 : Int) < ((S (L.getD k [])).size : Int)) = true := decide_eq_true (by omega)
          clear HT hx hz HJ he hcp
          generalize S (L.getD k []) = sx at *
          go_wp2
          first | exact HF.out | (go_ret; exact HF.out)
      · obtain rfl : k = n := by omega
        have hS : shortOk L := by
          refine ⟨by rw [HN.out]; exact h60, fun x hx => ?_⟩
          obtain ⟨j, hj, rfl⟩ := List.mem_iff_getElem.1 hx
          have := HJ.out j (by rw [← HN.out]; exact hj)
          rw [List.getD_eq_getElem?_getD, List.getElem?_eq_getElem hj] at this
          exact this
        have hfin := Lib.hid (HT.out hS)
        clear hS HT HF HJ
        go_wp2
        first | exact hfin.out | (go_ret; exact hfin.out)
  · have t1 : decide ((60 : Int) < (n : Int)) = true := decide_eq_true (by omega)
    go_wp2
    first | exact HF.out | (go_ret; exact HF.out)
end

end Go.Proofs.YtjfbbpppdlaapaaDoor
