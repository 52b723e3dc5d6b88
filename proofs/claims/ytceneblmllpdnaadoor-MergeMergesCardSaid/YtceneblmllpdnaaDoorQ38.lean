/- Merged: LM16. -/
import Derived.Test.YtceneblmllpdnaaDoorQ34
import Derived.Test.YtceneblmllpdnaaDoorQ31
import Derived.Test.YtceneblmllpdnaaDoorQ36
import Derived.Test.YtceneblmllpdnaaDoorQ37
namespace Go.Proofs.YtceneblmllpdnaaDoor

section
open Go.RowKit Go.PlainAid
set_option maxHeartbeats 32000000 in
set_option maxRecDepth 100000 in
theorem lmerges16_any (a b : Rec) (l : List Kp) (u x k : Value) (w : World) (hE : Env w) (hu : FL u a.fields w) (hx : FL x b.fields w) (hk : KpL k l w) :
    Calls Tryd.prog 4 #[PairV a u b x k] w fun e w' => e = .returned (.bool true) ∧ Below w.heap.size w w' := by
  rw [fairV]
  have HE := Lib.hid (fun (W : World) (h : Below w.heap.size w W) => hE.after h)
  have HU := Lib.hid (fun (W : World) (h : Below w.heap.size w W) => hu.after h)
  have HV := Lib.hid (fun (W : World) (h : Below w.heap.size w W) => hx.after h)
  have HK := Lib.hid (fun (W : World) (h : Below w.heap.size w W) => hk.after h)
  obtain ⟨fb, hfb⟩ : ∃ y, fairB a b l = y := ⟨_, rfl⟩
  have cF := Lib.hid (fun (W : World) (h : Below w.heap.size w W) => lfair_any a b l u x k W (hu.after h) (hx.after h) (hk.after h) fb hfb)
  have HFair := Lib.hid (fun (e : fb = true) => fairB_ok (hfb.trans e))
  obtain ⟨ua, uc, hua, -, -⟩ := hu.length
  obtain ⟨xa, xc, hxa, -, -⟩ := hx.length
  obtain ⟨ka, kc, -, -, hka, -, -, -, -⟩ := hk.opened
  obtain ⟨W0, hW0⟩ : ∃ W0, w.alloc (.cells #[.int .i64 a.id, .int .i64 a.ver, .int .i64 a.kind, .string (S a.lang), u, .int .i64 b.id, .int .i64 b.ver, .int .i64 b.kind, .string (S b.lang), x, k] 33) = W0 := ⟨_, rfl⟩
  have b0 : Below w.heap.size w W0 := by rw [← hW0]; exact (Below.refl w.heap.size w).alloc (Nat.le_refl _) _
  have hX : W0.heap[w.heap.size]? = some (.cells #[.int .i64 a.id, .int .i64 a.ver, .int .i64 a.kind, .string (S a.lang), u, .int .i64 b.id, .int .i64 b.ver, .int .i64 b.kind, .string (S b.lang), x, k] 33 (0, 0)) := by rw [← hW0]; exact heap_alloc_new w _
  have HX := Lib.hid (fun (W : World) (h : Below W0.heap.size W0 W) => (h.block w.heap.size (Array.getElem?_eq_some_iff.1 hX).1).trans hX)
  have HW0 := Lib.hid hW0
  have HB0 := Lib.hid b0
  rw [fairV] at cF
  have cP := Lib.hid (fun (W : World) (h : Below w.heap.size w W) (e : fb = true) => pMerge_any a b l u x k W (HE.out W h) (HU.out W h) (HV.out W h) (HK.out W h) (HFair.out e).1.1 (HFair.out e).2.1)
  have cR := Lib.hid (fun (W : World) (h : Below w.heap.size w W) (e : fb = true) => refMerge16_any a b l u x k W (HU.out W h) (HV.out W h) (HK.out W h) (HFair.out e).1.1 (HFair.out e).2.1)
  unfold MrgT at cP
  unfold MrgL at cR
  obtain ⟨RR, hRR⟩ : ∃ y, mrgR a b l = y := ⟨_, rfl⟩
  obtain ⟨PP, hPP⟩ : ∃ y, mrgP a b l = y := ⟨_, rfl⟩
  obtain ⟨EE, hEE⟩ : ∃ y, errM a b l = y := ⟨_, rfl⟩
  rw [hRR, hPP, hEE] at cP cR
  have cS := Lib.hid (fun (W : World) (v1 v2 : Value) (h1 : FL v1 RR.fields W) (h2 : FL v2 RR.fields W) => refSame08_any RR RR v1 v2 W h1 h2 true ((sameRB_iff _ _).2 rfl))
  have cQ := Lib.hid (fun (W : World) (f1 t1 f2 t2 : Value) (h1 : FL f1 PP.frm.fields W) (h2 : TL t1 PP.taken W) (h3 : FL f2 PP.frm.fields W) (h4 : TL t2 PP.taken W) => refSame16_any PP f1 t1 f2 t2 W h1 h2 h3 h4)
  have HLr : RowKit.Hid (RR.fields.length = RR.fields.length) := rfl
  unfold RV PgV at *
  subst hua hxa hka
  obtain ⟨⟨x0, x1, x2, x3, x4⟩, ⟨x5, x6, x7, x8, x9⟩, x10⟩ := pair_cells hX
  clear hE hu hx hk hfb hW0 b0 hX hRR hPP hEE HU HV HK
  obtain ⟨LL, hLL⟩ : ∃ y, RR.fields = y := ⟨_, rfl⟩
  obtain ⟨FF, hFF⟩ : ∃ y, PP.frm.fields = y := ⟨_, rfl⟩
  obtain ⟨TT, hTT⟩ : ∃ y, PP.taken = y := ⟨_, rfl⟩
  rw [hLL] at cP cR cS
  rw [hFF] at cP cR cQ
  rw [hTT] at cP cR cQ
  clear HLr hLL hFF hTT
  generalize S RR.lang = rl at *
  generalize RR.id = r0 at *
  generalize RR.ver = r1 at *
  generalize RR.kind = r2 at *
  generalize S PP.frm.lang = pl at *
  generalize PP.into = p0 at *
  generalize PP.frm.id = p1 at *
  generalize PP.frm.ver = p2 at *
  generalize PP.frm.kind = p3 at *
  generalize S a.lang = la at *
  generalize a.id = a0 at *
  generalize a.ver = a1 at *
  generalize a.kind = a2 at *
  generalize S b.lang = lb at *
  generalize b.id = b0 at *
  generalize b.ver = b1 at *
  generalize b.kind = b2 at *
  generalize a.fields.length = an at *
  generalize b.fields.length = bn at *
  generalize l.length = kn at *
  go_enter Tryd.func4, Tryd.ntmps4
  go_upto_region 1 with fail
  (try rw [HW0.out])
  clear HW0
  go_wp2_with fail
  refine (cF.out W0 HB0.out).mono ?_
  rintro e w1 ⟨rfl, hb1⟩
  have HW1 := Lib.hid hb1
  have HB1 := Lib.hid (HB0.out.trans (hb1.mono HB0.out.size))
  clear hb1 x0 x1 x2 x3 x4 x5 x6 x7 x8 x9 x10 cF
  cases fb with
  | false =>
    go_wp2_with fail
    refine (lalive16_any w1 (HE.out w1 HB1.out)).mono ?_
    rintro e w2 ⟨rfl, hb2⟩
    have HB2 := Lib.hid (HB1.out.trans (hb2.mono HB1.out.size))
    clear hb2
    go_wp2
    first | exact ⟨rfl, HB2.out⟩ | (go_ret; exact ⟨rfl, HB2.out⟩)
  | true =>
  obtain ⟨⟨x0, x1, x2, x3, x4⟩, ⟨x5, x6, x7, x8, x9⟩, x10⟩ := pair_cells (HX.out w1 HW1.out)
  go_wp2_with fail
  refine (cP.out w1 HB1.out (by trivial)).mono ?_
  rintro e w2 ⟨mv, fv, tv, rfl, hm, hf, ht, hb2⟩
  obtain ⟨ma, mc, rfl⟩ := hm.form
  obtain ⟨fa, fc, rfl⟩ := hf.form
  obtain ⟨ta, tc, rfl⟩ := ht.form
  have HM2 := Lib.hid hm.fl
  have HF2 := Lib.hid hf.fl
  have HT2 := Lib.hid ht.tl
  have HW2 := Lib.hid (HW1.out.trans (hb2.mono HW1.out.size))
  have HB2 := Lib.hid (HB1.out.trans (hb2.mono HB1.out.size))
  obtain ⟨rn, hrn⟩ : ∃ y, LL.length = y := ⟨_, rfl⟩
  obtain ⟨fn, hfn⟩ : ∃ y, FF.length = y := ⟨_, rfl⟩
  obtain ⟨tn, htn⟩ : ∃ y, TT.length = y := ⟨_, rfl⟩
  rw [hrn] at HM2 ⊢
  rw [hfn] at HF2 ⊢
  rw [htn] at HT2 ⊢
  clear hm hf ht hb2 cP x0 x1 x2 x3 x4 x5 x6 x7 x8 x9 x10
  obtain ⟨ca, hca⟩ : ∃ y, (#[.int .i64 r0, .int .i64 r1, .int .i64 r2, .string rl, .slice ma rn mc] : Array Value) = y := ⟨_, rfl⟩
  obtain ⟨cb, hcb⟩ : ∃ y, (#[.int .i64 p0, .int .i64 p1, .int .i64 p2, .int .i64 p3, .string pl, .slice fa fn fc, .slice ta tn tc] : Array Value) = y := ⟨_, rfl⟩
  obtain ⟨wA, hwA⟩ : ∃ X, (w2.alloc (.cells #[.int .i64 0, .int .i64 0, .int .i64 0, .string ⟨#[]⟩, .slice none 0 0] 31)).alloc (.cells #[.int .i64 0, .int .i64 0, .int .i64 0, .int .i64 0, .string ⟨#[]⟩, .slice none 0 0, .slice none 0 0] 36) = X := ⟨_, rfl⟩
  have hbx : box2W w2 = wA := hwA
  have h1 := box2_one w2
  have h2 := box2_two w2 ca
  rw [hbx] at h1 h2
  have HZ1 := Lib.hid h1
  have HZ2 := Lib.hid h2
  clear h1 h2
  have h1 := box2_a w2 ca cb
  have h2 := box2_b w2 ca cb
  have h3 := box2_below w2 ca cb
  unfold box2F at h1 h2 h3
  rw [hbx] at h1 h2 h3
  clear hbx
  go_upto_region 4 with (first | (refine wpList_store_row rfl 31 (.tmp 3) (.tmp 21) rfl w2.heap.size ca rfl (by rw [← hca]; rfl) 31 _ (by (try rw [hwA]); exact HZ1.out) (by rw [← hca]; kernel_rfl) (by rw [← hca]; rfl) (by rw [← hca]; simp [Value.oneCell']) ?_) | (refine wpList_store_row rfl 36 (.tmp 4) (.tmp 22) rfl (w2.heap.size + 1) cb rfl (by rw [← hcb]; rfl) 36 _ (by (try rw [hwA]); exact HZ2.out) (by rw [← hcb]; kernel_rfl) (by rw [← hcb]; rfl) (by rw [← hcb]; simp [Value.oneCell']) ?_))
  (try rw [hwA])
  obtain ⟨w3, hW7⟩ : ∃ X, (wA.setRow w2.heap.size ca).setRow (w2.heap.size + 1) cb = X := ⟨_, rfl⟩
  rw [hW7] at h1 h2 h3
  rw [← hca] at h1
  rw [← hcb] at h2
  (try rw [hW7])
  obtain ⟨n1, hnA⟩ : ∃ y, w2.heap.size = y := ⟨_, rfl⟩
  rw [hnA] at h1 h2
  (try rw [hnA])
  have HaA := Lib.hid h1
  have HaP := Lib.hid h2
  have HaB := Lib.hid h3
  clear h1 h2 h3 hW7 hwA HZ1 HZ2 hca hcb hnA
  have HW3 := Lib.hid (HW2.out.trans (HaB.out.mono HW2.out.size))
  have HB3 := Lib.hid (HB2.out.trans (HaB.out.mono HB2.out.size))
  have HM3 := Lib.hid (HM2.out.after HaB.out)
  have HF3 := Lib.hid (HF2.out.after HaB.out)
  have HT3 := Lib.hid (HT2.out.after HaB.out)
  clear HM2 HF2 HT2 HaB HW2 HB2
  obtain ⟨⟨x0, x1, x2, x3, x4⟩, ⟨x5, x6, x7, x8, x9⟩, x10⟩ := pair_cells (HX.out w3 HW3.out)
  go_wp2_with fail
  refine (cR.out w3 HB3.out (by trivial)).mono ?_
  rintro e w4 ⟨mv', fv', tv', rfl, hm, hf, ht, hb4⟩
  obtain ⟨ma', mc', rfl, -, -⟩ := hm.length
  obtain ⟨fa', fc', rfl, -, -⟩ := hf.length
  obtain ⟨ta', tc', -, -, rfl, -, -, -, -⟩ := ht.opened
  have HN4 := Lib.hid hm
  have HG4 := Lib.hid hf
  have HS4 := Lib.hid ht
  have HM4 := Lib.hid (HM3.out.after hb4)
  have HF4 := Lib.hid (HF3.out.after hb4)
  have HT4 := Lib.hid (HT3.out.after hb4)
  have HB4 := Lib.hid (HB3.out.trans (hb4.mono HB3.out.size))
  have hA4 := (hb4.block _ (Array.getElem?_eq_some_iff.1 HaA.out).1).trans HaA.out
  have hP4 := (hb4.block _ (Array.getElem?_eq_some_iff.1 HaP.out).1).trans HaP.out
  have HA4 := Lib.hid hA4
  have HP4 := Lib.hid hP4
  rw [hrn] at HN4 ⊢
  rw [hfn] at HG4 ⊢
  rw [htn] at HS4 ⊢
  clear hm hf ht hb4 hA4 hP4 cR x0 x1 x2 x3 x4 x5 x6 x7 x8 x9 x10 HM3 HF3 HT3 HaA HaP HW3 HB3 HX
  obtain ⟨ca, hca⟩ : ∃ y, (#[.int .i64 r0, .int .i64 r1, .int .i64 r2, .string rl, .slice ma' rn mc'] : Array Value) = y := ⟨_, rfl⟩
  obtain ⟨cb, hcb⟩ : ∃ y, (#[.int .i64 p0, .int .i64 p1, .int .i64 p2, .int .i64 p3, .string pl, .slice fa' fn fc', .slice ta' tn tc'] : Array Value) = y := ⟨_, rfl⟩
  obtain ⟨wA, hwA⟩ : ∃ X, (w4.alloc (.cells #[.int .i64 0, .int .i64 0, .int .i64 0, .string ⟨#[]⟩, .slice none 0 0] 31)).alloc (.cells #[.int .i64 0, .int .i64 0, .int .i64 0, .int .i64 0, .string ⟨#[]⟩, .slice none 0 0, .slice none 0 0] 36) = X := ⟨_, rfl⟩
  have hbx : box2W w4 = wA := hwA
  have h1 := box2_one w4
  have h2 := box2_two w4 ca
  rw [hbx] at h1 h2
  have HZ1 := Lib.hid h1
  have HZ2 := Lib.hid h2
  clear h1 h2
  have h1 := box2_a w4 ca cb
  have h2 := box2_b w4 ca cb
  have h3 := box2_below w4 ca cb
  unfold box2F at h1 h2 h3
  rw [hbx] at h1 h2 h3
  clear hbx
  go_upto_region 5 with (first | (refine wpList_store_row rfl 31 (.tmp 6) (.tmp 32) rfl w4.heap.size ca rfl (by rw [← hca]; rfl) 31 _ (by (try rw [hwA]); exact HZ1.out) (by rw [← hca]; kernel_rfl) (by rw [← hca]; rfl) (by rw [← hca]; simp [Value.oneCell']) ?_) | (refine wpList_store_row rfl 36 (.tmp 7) (.tmp 33) rfl (w4.heap.size + 1) cb rfl (by rw [← hcb]; rfl) 36 _ (by (try rw [hwA]); exact HZ2.out) (by rw [← hcb]; kernel_rfl) (by rw [← hcb]; rfl) (by rw [← hcb]; simp [Value.oneCell']) ?_))
  (try rw [hwA])
  obtain ⟨w5, hW7⟩ : ∃ X, (wA.setRow w4.heap.size ca).setRow (w4.heap.size + 1) cb = X := ⟨_, rfl⟩
  rw [hW7] at h1 h2 h3
  rw [← hca] at h1
  rw [← hcb] at h2
  (try rw [hW7])
  obtain ⟨n2, hnA⟩ : ∃ y, w4.heap.size = y := ⟨_, rfl⟩
  rw [hnA] at h1 h2
  (try rw [hnA])
  have HbA := Lib.hid h1
  have HbP := Lib.hid h2
  have HbB := Lib.hid h3
  clear h1 h2 h3 hW7 hwA HZ1 HZ2 hca hcb hnA
  have HB5 := Lib.hid (HB4.out.trans (HbB.out.mono HB4.out.size))
  go_wp2_with fail
  refine (lalive16_any w5 (HE.out w5 HB5.out)).mono ?_
  rintro e w6 ⟨rfl, hb6⟩
  have h46 := HbB.out.trans (hb6.mono HbB.out.size)
  have HB6 := Lib.hid (HB5.out.trans (hb6.mono HB5.out.size))
  have HA6 := Lib.hid ((h46.block _ (Array.getElem?_eq_some_iff.1 HA4.out).1).trans HA4.out)
  have HP6 := Lib.hid ((h46.block _ (Array.getElem?_eq_some_iff.1 HP4.out).1).trans HP4.out)
  have HC6 := Lib.hid ((hb6.block _ (Array.getElem?_eq_some_iff.1 HbA.out).1).trans HbA.out)
  have HD6 := Lib.hid ((hb6.block _ (Array.getElem?_eq_some_iff.1 HbP.out).1).trans HbP.out)
  have HM6 := Lib.hid (HM4.out.after h46)
  have HF6 := Lib.hid (HF4.out.after h46)
  have HT6 := Lib.hid (HT4.out.after h46)
  have HN6 := Lib.hid (HN4.out.after h46)
  have HG6 := Lib.hid (HG4.out.after h46)
  have HS6 := Lib.hid (HS4.out.after h46)
  clear hb6 h46 HA4 HP4 HbA HbP HbB HM4 HF4 HT4 HN4 HG4 HS4 HB5 HB4 HE
  obtain ⟨⟨x0, x1, x2, x3, x4⟩, -⟩ := rcells HA6.out
  obtain ⟨⟨y0, y1, y2, y3, y4⟩, -⟩ := rcells HC6.out
  have cS6 := Lib.hid (cS.out w6 _ _ HM6.out HN6.out)
  go_wp2_with fail
  refine cS6.out.mono ?_
  rintro e w7 ⟨rfl, hb7⟩
  clear x0 x1 x2 x3 x4 y0 y1 y2 y3 y4 cS cS6
  have HB7 := Lib.hid (HB6.out.trans (hb7.mono HB6.out.size))
  obtain ⟨⟨p0', p1', p2', p3', p4', p5', p6'⟩, -⟩ := pcells16 ((hb7.block _ (Array.getElem?_eq_some_iff.1 HP6.out).1).trans HP6.out)
  obtain ⟨⟨q0, q1, q2, q3, q4, q5, q6⟩, -⟩ := pcells16 ((hb7.block _ (Array.getElem?_eq_some_iff.1 HD6.out).1).trans HD6.out)
  have cQ7 := Lib.hid (cQ.out w7 _ _ _ _ (HF6.out.after hb7) (HT6.out.after hb7) (HG6.out.after hb7) (HS6.out.after hb7))
  clear hb7
  go_wp2_with fail
  refine cQ7.out.mono ?_
  rintro e w8 ⟨rfl, hb8⟩
  have HB8 := Lib.hid (HB7.out.trans (hb8.mono HB7.out.size))
  clear hb8 p0' p1' p2' p3' p4' p5' p6' q0 q1 q2 q3 q4 q5 q6 cQ cQ7
  go_wp2
  first | exact ⟨rfl, HB8.out⟩ | (go_ret; exact ⟨rfl, HB8.out⟩)
end

end Go.Proofs.YtceneblmllpdnaaDoor
