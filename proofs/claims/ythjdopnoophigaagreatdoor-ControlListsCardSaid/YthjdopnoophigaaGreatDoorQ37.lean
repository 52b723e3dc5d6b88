/- Merged: KV14. -/
import Derived.Test.YthjdopnoophigaaGreatDoorQ36
namespace Go.Proofs.YthjdopnoophigaaGreatDoor

section
open Go.RowKit Go.PlainAid
set_option maxHeartbeats 32000000 in
set_option maxRecDepth 100000 in
theorem lalive14_any (w : World) (hE : Env w) : Calls Tryz.prog 9 #[] w fun e w' => e = .returned (.bool true) ∧ Below w.heap.size w w' := by
  have HE := Lib.hid (fun (W : World) (hb : Below w.heap.size w W) => hE.after hb)
  clear hE
  obtain ⟨Wa, hWa⟩ : ∃ W, w.alloc (.cells #[.int .u8 97, .string ⟨#[83, 109, 105, 116, 104, 44, 32, 65, 110, 110]⟩, .int .u8 100, .string ⟨#[49, 57, 53, 48, 45]⟩, .int .u8 52, .string ⟨#[97, 117, 116]⟩] 48) = W := ⟨_, rfl⟩
  obtain ⟨Wb, hWb⟩ : ∃ W, Wa.alloc (.cells #[.string ⟨#[49, 48, 48]⟩, .string ⟨#[49, 32]⟩, .slice (some ⟨w.heap.size, 0, none⟩) 3 3, .int .i64 0] 24) = W := ⟨_, rfl⟩
  obtain ⟨Wc, hWc⟩ : ∃ W, Wb.alloc (.cells #[.int .u8 97, .string ⟨#[68, 111, 103, 115]⟩, .int .u8 120, .string ⟨#[72, 105, 115, 116, 111, 114, 121]⟩] 48) = W := ⟨_, rfl⟩
  obtain ⟨Wd, hWd⟩ : ∃ W, Wc.alloc (.cells #[.string ⟨#[54, 53, 48]⟩, .string ⟨#[32, 48]⟩, .slice (some ⟨w.heap.size + 1 + 1, 0, none⟩) 2 2, .int .i64 0] 24) = W := ⟨_, rfl⟩
  have sa : Wa.heap.size = w.heap.size + 1 := by rw [← hWa]; simp
  have sb : Wb.heap.size = w.heap.size + 1 + 1 := by rw [← hWb]; simp [sa]
  have sc : Wc.heap.size = w.heap.size + 1 + 1 + 1 := by rw [← hWc]; simp [sb]
  have ba : Below w.heap.size w Wa := by rw [← hWa]; exact (Below.refl _ _).alloc (Nat.le_refl _) _
  have bb : Below Wa.heap.size Wa Wb := by rw [← hWb]; exact (Below.refl _ _).alloc (Nat.le_refl _) _
  have bc : Below Wb.heap.size Wb Wc := by rw [← hWc]; exact (Below.refl _ _).alloc (Nat.le_refl _) _
  have bd : Below Wc.heap.size Wc Wd := by rw [← hWd]; exact (Below.refl _ _).alloc (Nat.le_refl _) _
  have qa : QL (.slice (some ⟨w.heap.size, 0, none⟩) 3 3) fP14.subs Wa := by rw [← hWa]; exact QL.lay (L := fP14.subs) rfl (by decide)
  have qc : QL (.slice (some ⟨w.heap.size + 1 + 1, 0, none⟩) 2 2) fS14.subs Wc := by rw [← hWc, ← sb]; exact QL.lay (L := fS14.subs) rfl (by decide)
  have fb : FX14 (w.heap.size + 1) ⟨#[49, 48, 48]⟩ ⟨#[49, 32]⟩ (.slice (some ⟨w.heap.size, 0, none⟩) 3 3) 0 fP14.subs Wb := ⟨by rw [← hWb, ← sa]; exact heap_alloc_new Wa _, qa.after bb⟩
  have fd : FX14 (w.heap.size + 1 + 1 + 1) ⟨#[54, 53, 48]⟩ ⟨#[32, 48]⟩ (.slice (some ⟨w.heap.size + 1 + 1, 0, none⟩) 2 2) 0 fS14.subs Wd := ⟨by rw [← hWd, ← sc]; exact heap_alloc_new Wc _, qc.after bd⟩
  have FP0 := Lib.hid ((fb.after bc).after bd)
  have FS0 := Lib.hid fd
  have hb2 := ba.trans (bb.mono ba.size)
  have hb3 := hb2.trans (bc.mono hb2.size)
  have B0 := Lib.hid (hb3.trans (bd.mono hb3.size))
  have HWd : RowKit.Hid ((((w.alloc (.cells #[.int .u8 97, .string ⟨#[83, 109, 105, 116, 104, 44, 32, 65, 110, 110]⟩, .int .u8 100, .string ⟨#[49, 57, 53, 48, 45]⟩, .int .u8 52, .string ⟨#[97, 117, 116]⟩] 48)).alloc (.cells #[.string ⟨#[49, 48, 48]⟩, .string ⟨#[49, 32]⟩, .slice (some ⟨w.heap.size, 0, none⟩) 3 3, .int .i64 0] 24)).alloc (.cells #[.int .u8 97, .string ⟨#[68, 111, 103, 115]⟩, .int .u8 120, .string ⟨#[72, 105, 115, 116, 111, 114, 121]⟩] 48)).alloc (.cells #[.string ⟨#[54, 53, 48]⟩, .string ⟨#[32, 48]⟩, .slice (some ⟨w.heap.size + 1 + 1, 0, none⟩) 2 2, .int .i64 0] 24) = Wd) := by rw [hWa, hWb, hWc, hWd]; rfl
  clear hWa hWb hWc hWd sa sb sc ba bb bc bd qa qc fb fd hb2 hb3
  go_enter Tryz.func9, Tryz.ntmps9
  go_upto_region 3 with fail
  rw [HWd.out]
  clear HWd
  have c1 := Lib.hid (exK1 Wd (HE.out Wd B0.out))
  go_wp2_with fail
  refine c1.out.mono ?_
  rintro e w1 ⟨rfl, hb⟩
  have B1 := Lib.hid (B0.out.trans (hb.mono B0.out.size))
  have FP1 := Lib.hid (FP0.out.after hb)
  have FS1 := Lib.hid (FS0.out.after hb)
  clear hb c1 B0 FP0 FS0
  have c2 := Lib.hid (exK3 w1 (HE.out w1 B1.out))
  go_wp2_with fail
  refine c2.out.mono ?_
  rintro e w2 ⟨rfl, hb⟩
  have B2 := Lib.hid (B1.out.trans (hb.mono B1.out.size))
  have FP2 := Lib.hid (FP1.out.after hb)
  have FS2 := Lib.hid (FS1.out.after hb)
  clear hb c2 B1 FP1 FS1
  have c3 := Lib.hid (exK0 w2 (HE.out w2 B2.out))
  go_wp2_with fail
  refine c3.out.mono ?_
  rintro e w3 ⟨rfl, hb⟩
  have B3 := Lib.hid (B2.out.trans (hb.mono B2.out.size))
  have FP3 := Lib.hid (FP2.out.after hb)
  have FS3 := Lib.hid (FS2.out.after hb)
  clear hb c3 B2 FP2 FS2
  obtain ⟨⟨p0, p1, p2, p3⟩, -⟩ := fcells4 FP3.out.bx
  have c4 := Lib.hid (exHP w3 (HE.out w3 B3.out) _ FP3.out.q)
  go_wp2_with fail
  refine c4.out.mono ?_
  rintro e w4 ⟨rfl, hb⟩
  have B4 := Lib.hid (B3.out.trans (hb.mono B3.out.size))
  have FP4 := Lib.hid (FP3.out.after hb)
  have FS4 := Lib.hid (FS3.out.after hb)
  clear p0 p1 p2 p3
  clear hb c4 B3 FP3 FS3
  obtain ⟨⟨p0, p1, p2, p3⟩, -⟩ := fcells4 FS4.out.bx
  have c5 := Lib.hid (exHS w4 (HE.out w4 B4.out) _ FS4.out.q)
  go_wp2_with fail
  refine c5.out.mono ?_
  rintro e w5 ⟨rfl, hb⟩
  have B5 := Lib.hid (B4.out.trans (hb.mono B4.out.size))
  have FP5 := Lib.hid (FP4.out.after hb)
  have FS5 := Lib.hid (FS4.out.after hb)
  clear p0 p1 p2 p3
  clear hb c5 B4 FP4 FS4
  obtain ⟨⟨p0, p1, p2, p3⟩, -⟩ := fcells4 FP5.out.bx
  have k6 := Lib.hid (exPutP w5 (HE.out w5 B5.out) _ FP5.out.q)
  go_wp2_with fail
  refine k6.out.mono ?_
  rintro e w6 ⟨a6, c6, rfl, hq6, hb⟩
  have B6 := Lib.hid (B5.out.trans (hb.mono B5.out.size))
  have FS6 := Lib.hid (FS5.out.after hb)
  clear p0 p1 p2 p3 FP5
  clear hb B5 FS5
  have c7 := Lib.hid (exPrP w6 (HE.out w6 B6.out) _ hq6)
  go_wp2_with fail
  refine c7.out.mono ?_
  rintro e w7 ⟨rfl, hb⟩
  have B7 := Lib.hid (B6.out.trans (hb.mono B6.out.size))
  have FS7 := Lib.hid (FS6.out.after hb)
  clear hb c7 B6 FS6 hq6
  obtain ⟨⟨p0, p1, p2, p3⟩, -⟩ := fcells4 FS7.out.bx
  have k8 := Lib.hid (exPutS w7 (HE.out w7 B7.out) _ FS7.out.q)
  go_wp2_with fail
  refine k8.out.mono ?_
  rintro e w8 ⟨a8, c8, rfl, hq8, hb⟩
  have B8 := Lib.hid (B7.out.trans (hb.mono B7.out.size))
  clear p0 p1 p2 p3 FS7
  clear hb B7 
  have c9 := Lib.hid (exPrS w8 (HE.out w8 B8.out) _ hq8)
  go_wp2_with fail
  refine c9.out.mono ?_
  rintro e w9 ⟨rfl, hb⟩
  have B9 := Lib.hid (B8.out.trans (hb.mono B8.out.size))
  clear hb c9 B8 hq8 
  go_upto_region 11 with fail
  obtain ⟨n9, hn9⟩ : ∃ n, w9.heap.size = n := ⟨_, rfl⟩
  rw [hn9]
  obtain ⟨V1, hV1⟩ : ∃ W, w9.alloc (.cells #[.string ⟨#[72, 111, 117, 110, 100, 115]⟩] 9) = W := ⟨_, rfl⟩
  obtain ⟨V2, hV2⟩ : ∃ W, V1.alloc (.cells #[.int .i64 7, .int .i64 3, .string ⟨#[68, 111, 103, 115]⟩, .slice (some ⟨n9, 0, none⟩) 1 1, .slice none 0 0] 56) = W := ⟨_, rfl⟩
  obtain ⟨V3, hV3⟩ : ∃ W, V2.alloc (.cells #[.int .u8 97, .string ⟨#[104, 111, 117, 110, 100, 115]⟩] 48) = W := ⟨_, rfl⟩
  obtain ⟨V4, hV4⟩ : ∃ W, V3.alloc (.cells #[.string ⟨#[54, 53, 48]⟩, .string ⟨#[32, 48]⟩, .slice (some ⟨n9 + 1 + 1, 0, none⟩) 1 1, .int .i64 0] 24) = W := ⟨_, rfl⟩
  obtain ⟨V5, hV5⟩ : ∃ W, V4.alloc (.cells #[.int .i64 0, .int .i64 3, .int .i64 1, .string ⟨#[101, 110, 103]⟩, .slice (some ⟨n9 + 1 + 1 + 1, 0, none⟩) 1 1] 33) = W := ⟨_, rfl⟩
  rw [hV1, hV2, hV3, hV4, hV5]
  have s1 : V1.heap.size = n9 + 1 := by rw [← hV1, ← hn9]; simp
  have s2 : V2.heap.size = n9 + 1 + 1 := by rw [← hV2]; simp [s1]
  have s3 : V3.heap.size = n9 + 1 + 1 + 1 := by rw [← hV3]; simp [s2]
  have s4 : V4.heap.size = n9 + 1 + 1 + 1 + 1 := by rw [← hV4]; simp [s3]
  have b1 : Below n9 w9 V1 := by rw [← hV1, ← hn9]; exact (Below.refl _ _).alloc (Nat.le_refl _) _
  have b2 : Below V1.heap.size V1 V2 := by rw [← hV2]; exact (Below.refl _ _).alloc (Nat.le_refl _) _
  have b3 : Below V2.heap.size V2 V3 := by rw [← hV3]; exact (Below.refl _ _).alloc (Nat.le_refl _) _
  have b4 : Below V3.heap.size V3 V4 := by rw [← hV4]; exact (Below.refl _ _).alloc (Nat.le_refl _) _
  have b5 : Below V4.heap.size V4 V5 := by rw [← hV5]; exact (Below.refl _ _).alloc (Nat.le_refl _) _
  have l1 : BL (.slice (some ⟨n9, 0, none⟩) 1 1) a14.see V1 := by rw [← hV1, ← hn9]; exact BL.lay14 w9 _
  have l2 : AL (.slice (some ⟨n9 + 1, 0, none⟩) 1 1) l14 V2 := by rw [← hV2, ← s1]; exact AL.lay (a := a14) l1 (IL.nil _)
  have l3 : QL (.slice (some ⟨n9 + 1 + 1, 0, none⟩) 1 1) fH14.subs V3 := by rw [← hV3, ← s2]; exact QL.lay (L := fH14.subs) rfl (by decide)
  have l4 : FL (.slice (some ⟨n9 + 1 + 1 + 1, 0, none⟩) 1 1) [fH14] V4 := by rw [← hV4, ← s3]; exact FL.lay (f := fH14) l3
  have l5 : RX14 (n9 + 1 + 1 + 1 + 1) ⟨#[101, 110, 103]⟩ (.slice (some ⟨n9 + 1 + 1 + 1, 0, none⟩) 1 1) [fH14] V5 := ⟨by rw [← hV5, ← s4]; exact heap_alloc_new V4 _, l4.after b5⟩
  have LA9 := Lib.hid (((l2.after b3).after b4).after b5)
  have RR9 := Lib.hid l5
  have hB1 : Below w.heap.size w V1 := B9.out.trans (b1.mono (by have := B9.out.size; omega))
  have hB2 := hB1.trans (b2.mono hB1.size)
  have hB3 := hB2.trans (b3.mono hB2.size)
  have hB4 := hB3.trans (b4.mono hB3.size)
  have BV := Lib.hid (hB4.trans (b5.mono hB4.size))
  obtain ⟨⟨x0, x1, x2, x3, x4⟩, -⟩ := rcells14 l5.bx
  clear hn9 hV1 hV2 hV3 hV4 hV5 s1 s2 s3 s4 b1 b2 b3 b4 b5 l1 l2 l3 l4 l5 hB1 hB2 hB3 hB4 B9
  have k10 := Lib.hid (exLink V5 (HE.out V5 BV.out) _ _ LA9.out RR9.out.q)
  go_wp2_with fail
  refine k10.out.mono ?_
  rintro e w10 ⟨a10, c10, rfl, hf10, hb⟩
  have B10 := Lib.hid (BV.out.trans (hb.mono BV.out.size))
  have LA10 := Lib.hid (LA9.out.after hb)
  have RR10 := Lib.hid (RR9.out.after hb)
  clear hb k10 BV LA9 RR9 x0 x1 x2 x3 x4
  go_upto_region 12 with fail
  obtain ⟨X1, hX1⟩ : ∃ W, w10.alloc (.cells #[.int .i64 0, .int .i64 3, .int .i64 1, .string ⟨#[101, 110, 103]⟩, .slice a10 1 c10] 33) = W := ⟨_, rfl⟩
  rw [hX1]
  have bX : Below w10.heap.size w10 X1 := by rw [← hX1]; exact (Below.refl _ _).alloc (Nat.le_refl _) _
  have rX : RX14 w10.heap.size ⟨#[101, 110, 103]⟩ (.slice a10 1 c10) [fL14] X1 := ⟨by rw [← hX1]; exact heap_alloc_new w10 _, hf10.after bX⟩
  have BX := Lib.hid (B10.out.trans (bX.mono B10.out.size))
  have LX := Lib.hid (LA10.out.after bX)
  have RX := Lib.hid (RR10.out.after bX)
  have SX := Lib.hid rX
  obtain ⟨⟨x0, x1, x2, x3, x4⟩, -⟩ := rcells14 rX.bx
  obtain ⟨m10, hm10⟩ : ∃ n, w10.heap.size = n := ⟨_, rfl⟩
  rw [hm10] at SX x0 x1 x2 x3 x4 ⊢
  clear hm10 hX1 bX rX hf10 B10 LA10 RR10
  have k11 := Lib.hid (exFollow X1 (HE.out X1 BX.out) _ _ LX.out SX.out.q)
  go_wp2_with fail
  refine k11.out.mono ?_
  rintro e w11 ⟨a11, c11, rfl, hf11, hb⟩
  have B11 := Lib.hid (BX.out.trans (hb.mono BX.out.size))
  have RR11 := Lib.hid (RX.out.after hb)
  have SS11 := Lib.hid (SX.out.after hb)
  clear hb k11 BX LX RX SX x0 x1 x2 x3 x4
  go_upto_region 13 with fail
  obtain ⟨Y1, hY1⟩ : ∃ W, w11.alloc (.cells #[.int .i64 0, .int .i64 3, .int .i64 1, .string ⟨#[101, 110, 103]⟩, .slice a11 1 c11] 33) = W := ⟨_, rfl⟩
  rw [hY1]
  have bY : Below w11.heap.size w11 Y1 := by rw [← hY1]; exact (Below.refl _ _).alloc (Nat.le_refl _) _
  have rY : RX14 w11.heap.size ⟨#[101, 110, 103]⟩ (.slice a11 1 c11) [fD14] Y1 := ⟨by rw [← hY1]; exact heap_alloc_new w11 _, hf11.after bY⟩
  have BY := Lib.hid (B11.out.trans (bY.mono B11.out.size))
  have RY := Lib.hid (RR11.out.after bY)
  have SY := Lib.hid (SS11.out.after bY)
  have TY := Lib.hid rY
  obtain ⟨m11, hm11⟩ : ∃ n, w11.heap.size = n := ⟨_, rfl⟩
  rw [hm11] at TY ⊢
  clear hm11 hY1 bY rY hf11 B11 RR11 SS11
  obtain ⟨⟨x0, x1, x2, x3, x4⟩, -⟩ := rcells14 SY.out.bx
  obtain ⟨g, o, cap', us, he, hg, c0, c1, c2, c3, hqs⟩ := SY.out.q.at 0 (by decide)
  obtain ⟨rfl, -, hcp⟩ := Value.slice.inj he
  obtain ⟨aus, cus, hus, -, -⟩ := hqs.length
  subst hus
  clear he hcp hg
  rw [Nat.zero_mul, Nat.add_zero] at c0 c1 c2 c3
  change Y1.cell? ⟨g, o, none⟩ = some (.string ⟨#[54, 53, 48]⟩) at c0
  change Y1.cell? ⟨g, o + 1, none⟩ = some (.string ⟨#[32, 48]⟩) at c1
  change Y1.cell? ⟨g, o + 2, none⟩ = some (.slice aus 1 cus) at c2
  change Y1.cell? ⟨g, o + 3, none⟩ = some (.int .i64 7) at c3
  have k12 := Lib.hid (exHL Y1 (HE.out Y1 BY.out) _ hqs)
  clear hqs
  change RowKit.Hid (Calls _ _ #[.agg #[_, _, .slice aus 1 cus, _]] _ _) at k12
  go_wp2_with fail
  refine k12.out.mono ?_
  rintro e w12 ⟨rfl, hb⟩
  have B12 := Lib.hid (BY.out.trans (hb.mono BY.out.size))
  have R12 := Lib.hid (RY.out.after hb)
  have T12 := Lib.hid (TY.out.after hb)
  clear hb k12 BY RY SY TY x0 x1 x2 x3 x4 c0 c1 c2 c3
  obtain ⟨⟨x0, x1, x2, x3, x4⟩, -⟩ := rcells14 T12.out.bx
  obtain ⟨h, q, cap'', ut, he, hg, c0, c1, c2, c3, hqt⟩ := T12.out.q.at 0 (by decide)
  obtain ⟨rfl, -, hcp⟩ := Value.slice.inj he
  obtain ⟨aut, cut, hut, -, -⟩ := hqt.length
  subst hut
  clear he hcp hg
  rw [Nat.zero_mul, Nat.add_zero] at c0 c1 c2 c3
  change w12.cell? ⟨h, q, none⟩ = some (.string ⟨#[54, 53, 48]⟩) at c0
  change w12.cell? ⟨h, q + 1, none⟩ = some (.string ⟨#[32, 48]⟩) at c1
  change w12.cell? ⟨h, q + 2, none⟩ = some (.slice aut 1 cut) at c2
  change w12.cell? ⟨h, q + 3, none⟩ = some (.int .i64 7) at c3
  have k13 := Lib.hid (exHD w12 (HE.out w12 B12.out) _ hqt)
  clear hqt
  change RowKit.Hid (Calls _ _ #[.agg #[_, _, .slice aut 1 cut, _]] _ _) at k13
  go_wp2_with fail
  refine k13.out.mono ?_
  rintro e w13 ⟨rfl, hb⟩
  have B13 := Lib.hid (B12.out.trans (hb.mono B12.out.size))
  have R13 := Lib.hid (R12.out.after hb)
  clear hb k13 B12 R12 T12 x0 x1 x2 x3 x4 c0 c1 c2 c3
  obtain ⟨⟨x0, x1, x2, x3, x4⟩, -⟩ := rcells14 R13.out.bx
  have k14 := Lib.hid (exLoose w13 (HE.out w13 B13.out) _ R13.out.q)
  go_wp2_with fail
  refine k14.out.mono ?_
  rintro e w14 ⟨a14', c14, rfl, hb⟩
  have B14 := Lib.hid (B13.out.trans (hb.mono B13.out.size))
  clear hb k14 B13 R13 x0 x1 x2 x3 x4
  go_wp2
  first | exact ⟨rfl, B14.out⟩ | (go_ret; exact ⟨rfl, B14.out⟩)
end

end Go.Proofs.YthjdopnoophigaaGreatDoor
