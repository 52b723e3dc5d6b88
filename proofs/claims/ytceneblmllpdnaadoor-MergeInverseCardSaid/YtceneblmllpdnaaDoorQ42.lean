/- Merged: LI16. -/
import Derived.Test.YtceneblmllpdnaaDoorQ39
import Derived.Test.YtceneblmllpdnaaDoorQ40
import Derived.Test.YtceneblmllpdnaaDoorQ10
import Derived.Test.YtceneblmllpdnaaDoorQ41
import Derived.Deep.RegionLaw
import Derived.RegionTactic
import Derived.BigRegion
namespace Go.Proofs.YtceneblmllpdnaaDoor

section
open Go.RowKit Go.PlainAid
set_option maxHeartbeats 32000000 in
set_option maxRecDepth 100000 in
theorem linv_ok (a b : Rec) (l : List Kp) (u x k : Value) (f : Fld) (uf : Value) (w : World) (hE : Env w) (hu : FL u a.fields w) (hx : FL x b.fields w) (hk : KpL k l w) (huf : QL uf f.subs w) (fb lb : Bool) (hfb : fairB a b l = fb) (hlb : littleB f = lb) (h1f : fb = true) (h1l : lb = true) (he : errM a b l = 0) :
    Calls Tryd.prog 5 #[PairV a u b x k, FV f uf] w fun e w' => e = .returned (.bool true) ∧ Below w.heap.size w w' := by
  rw [fairV]
  have HE := Lib.hid (fun (W : World) (h : Below w.heap.size w W) => hE.after h)
  have HU := Lib.hid (fun (W : World) (h : Below w.heap.size w W) => hu.after h)
  have HV := Lib.hid (fun (W : World) (h : Below w.heap.size w W) => hx.after h)
  have HK := Lib.hid (fun (W : World) (h : Below w.heap.size w W) => hk.after h)
  have HQ := Lib.hid (fun (W : World) (h : Below w.heap.size w W) => huf.after h)
  have cF := Lib.hid (fun (W : World) (h : Below w.heap.size w W) => lfair_any a b l u x k W (hu.after h) (hx.after h) (hk.after h) fb hfb)
  have cL := Lib.hid (fun (W : World) (h : Below w.heap.size w W) => lLittle_any f uf W (huf.after h) lb hlb)
  have hfair := fairB_ok (hfb.trans h1f)
  have cM := Lib.hid (fun (W : World) (h : Below w.heap.size w W) => mrg_ok16 a b l u x k W (HE.out W h) (HU.out W h) (HV.out W h) (HK.out W h) hfair.1.1 hfair.2.1 he)
  obtain ⟨ML, hML⟩ : ∃ y, (mergeF a.fields b.fields l).1 = y := ⟨_, rfl⟩
  obtain ⟨TN, hTN⟩ : ∃ y, (mergeF a.fields b.fields l).2 = y := ⟨_, rfl⟩
  have hlen := merge_len a.fields b.fields l
  have hback := fun (g : Fld) (hg : ∀ k ∈ (mergeF a.fields b.fields l).2, b.fields.getD k fd0 ≠ g) => back_merge a.fields b.fields l g hg
  have hprt := parting_right a b l he
  have hmo := merge_ok a.fields b.fields l fd0
  have hlit := littleB_ok (hlb.trans h1l)
  have hba := hfair.1.1
  have hbb := hfair.2.1
  have hMb : BndR { a with fields := ML ++ [f] } := by
    have hmem : ∀ g ∈ ML ++ [f], g ∈ a.fields ∨ g ∈ b.fields ∨ g = f := by
      intro g hg
      rw [List.mem_append, List.mem_singleton, ← hML, hmo.1, List.mem_append, List.mem_map] at hg
      rcases hg with (h | ⟨j, hj, rfl⟩) | h
      · exact .inl h
      · refine .inr (.inl ?_)
        have := hmo.2.1 j hj
        rw [List.getD_eq_getElem?_getD, List.getElem?_eq_getElem this]
        exact List.getElem_mem _
      · exact .inr (.inr h)
    refine ⟨hba.lang, ?_, fun g hg => ?_, fun g hg s hs => ?_⟩
    · have h1 := hfair.1.2
      have h2 := hfair.2.2
      rw [hML] at hlen
      show (ML ++ [f]).length ≤ 10000
      rw [List.length_append, List.length_singleton]
      omega
    · rcases hmem g hg with h | h | rfl
      · exact hba.subs g h
      · exact hbb.subs g h
      · have := hlit.1; omega
    · rcases hmem g hg with h | h | rfl
      · exact hba.vals g h s hs
      · exact hbb.vals g h s hs
      · have := hlit.2 s hs; omega
  have HBack := Lib.hid (show (∀ k ∈ TN, b.fields.getD k fd0 ≠ f) → backF b.fields (NtoI TN) (ML ++ [f]) = (a.fields ++ [f], true) from fun hg => by rw [← hML, ← hTN]; exact hback f (by rw [hTN]; exact hg))
  have HPr : RowKit.Hid (rightP a.id b (NtoI TN) = 0) := by rw [← hTN]; exact hprt
  have HTl : RowKit.Hid (∀ k, k < TN.length → TN.getD k 0 < b.fields.length) := fun k hk => by
    rw [← hTN] at hk ⊢
    exact hmo.2.1 _ (by rw [List.getD_eq_getElem?_getD, List.getElem?_eq_getElem hk]; exact List.getElem_mem _)
  have HMem : RowKit.Hid ((∀ k, k < TN.length → b.fields.getD (TN.getD k 0) fd0 ≠ f) → ∀ k ∈ TN, b.fields.getD k fd0 ≠ f) := fun h k hk => by
    obtain ⟨i, hi, rfl⟩ := List.mem_iff_getElem.1 hk
    have := h i hi
    rwa [show TN.getD i 0 = TN[i] from by simp [List.getD_eq_getElem?_getD, hi]] at this
  have HLz : RowKit.Hid (ML.length ≤ 100000) := by
    unfold RowKit.Hid
    have h1 := hfair.1.2
    have h2 := hfair.2.2
    rw [hML] at hlen
    omega
  have HTz : RowKit.Hid (TN.length ≤ 100000) := by
    unfold RowKit.Hid
    have h2 := hfair.2.2
    rw [hTN] at hlen
    omega
  rw [hML, hTN] at cM
  obtain ⟨xa', xc', xg0, xo, us, hxo1, hxo2, hxo3, hxo4, hxo5⟩ := hx.open16
  have hxl := fun j (hj : j < b.fields.length) => ((hxo5 w (Below.refl _ _) j hj).2).length
  have HXO := Lib.hid hxo5
  have HXL := Lib.hid hxl
  have HXA := Lib.hid hxo4
  have HX1 := Lib.hid hxo1
  have cW := Lib.hid (fun (W : World) (h : Below w.heap.size w W) (rv fv tv : Value) (h1 : FL rv (ML ++ [f]) W) (h2 : FL fv b.fields W) (h3 : TL tv (NtoI TN) W) => pWhole_any { a with fields := ML ++ [f] } rv ⟨a.id, b, NtoI TN⟩ fv tv W (HE.out W h) h1 h2 h3 hMb hbb (by rw [NtoI_len]; have := HTz.out; omega) HPr.out rfl)
  have cSp := Lib.hid (fun (W : World) (h : Below w.heap.size w W) (rv fv tv : Value) (h1 : FL rv (ML ++ [f]) W) (h2 : FL fv b.fields W) (h3 : TL tv (NtoI TN) W) => pSplit_any { a with fields := ML ++ [f] } rv ⟨a.id, b, NtoI TN⟩ fv tv W (HE.out W h) h1 h2 h3 hMb hbb (by rw [NtoI_len]; have := HTz.out; omega) HPr.out rfl)
  have cSm0 := Lib.hid (fun (W : World) (h : Below w.heap.size w W) (j : Nat) (hj : j < b.fields.length) => fSame_any (b.fields.getD j fd0) f (us j) uf W (hxo5 W h j hj).2 (HQ.out W h) _ rfl)
  have cFf := Lib.hid (fun (W : World) (v1 v2 : Value) (h1 : QL v1 f.subs W) (h2 : QL v2 f.subs W) => fSame_any f f v1 v2 W h1 h2 true (by simp [sameB]))
  have cRA := Lib.hid (fun (W : World) (h : Below w.heap.size w W) (v1 : Value) (h1 : FL v1 a.fields W) => pSame_any a a v1 u W h1 (HU.out W h) true ((sameRB_iff _ _).2 rfl))
  have cRB := Lib.hid (fun (W : World) (h : Below w.heap.size w W) (v1 : Value) (h1 : FL v1 b.fields W) => pSame_any b b v1 x W h1 (HV.out W h) true ((sameRB_iff _ _).2 rfl))
  unfold PgV RV at cW cSp
  dsimp only at cW cSp
  obtain ⟨ua, uc, hua, -, -⟩ := hu.length
  obtain ⟨xa, xc, hxa, -, -⟩ := hx.length
  obtain ⟨ka, kc, -, -, hka, -, -, -, -⟩ := hk.opened
  obtain ⟨qa, qc, hqa, -, -⟩ := huf.length
  obtain ⟨W0, hW0⟩ : ∃ W0, (w.alloc (.cells #[.int .i64 a.id, .int .i64 a.ver, .int .i64 a.kind, .string (S a.lang), u, .int .i64 b.id, .int .i64 b.ver, .int .i64 b.kind, .string (S b.lang), x, k] 33)).alloc (.cells #[.string (S f.tag), .string (S f.ind), uf, .int .i64 f.auth] 45) = W0 := ⟨_, rfl⟩
  have b0 : Below w.heap.size w W0 := by rw [← hW0]; exact ((Below.refl w.heap.size w).alloc (Nat.le_refl _) _).alloc (by simp) _
  have hX : W0.heap[w.heap.size]? = some (.cells #[.int .i64 a.id, .int .i64 a.ver, .int .i64 a.kind, .string (S a.lang), u, .int .i64 b.id, .int .i64 b.ver, .int .i64 b.kind, .string (S b.lang), x, k] 33 (0, 0)) := by
    rw [← hW0]
    exact (Below.heap_alloc _ _ _ (by simp)).trans (heap_alloc_new w _)
  have hY : W0.heap[w.heap.size + 1]? = some (.cells #[.string (S f.tag), .string (S f.ind), uf, .int .i64 f.auth] 45 (0, 0)) := by
    rw [← hW0]
    have := heap_alloc_new (w.alloc (.cells #[.int .i64 a.id, .int .i64 a.ver, .int .i64 a.kind, .string (S a.lang), u, .int .i64 b.id, .int .i64 b.ver, .int .i64 b.kind, .string (S b.lang), x, k] 33)) (.cells #[.string (S f.tag), .string (S f.ind), uf, .int .i64 f.auth] 45)
    simpa using this
  have HX := Lib.hid (fun (W : World) (h : Below W0.heap.size W0 W) => (h.block w.heap.size (Array.getElem?_eq_some_iff.1 hX).1).trans hX)
  have HY := Lib.hid (fun (W : World) (h : Below W0.heap.size W0 W) => (h.block (w.heap.size + 1) (Array.getElem?_eq_some_iff.1 hY).1).trans hY)
  have HW0 := Lib.hid hW0
  have HB0 := Lib.hid b0
  rw [fairV] at cF
  unfold RV FV at *
  subst hua hxa hka hqa
  obtain ⟨⟨x0, x1, x2, x3, x4⟩, ⟨x5, x6, x7, x8, x9⟩, x10⟩ := pair_cells hX
  clear hE hu hx hk huf hfb hlb hW0 b0 hX hY HU HV HK hfair he hlen hback hprt hmo hlit hba hbb hMb hML hTN hxo1 hxo2 hxo3 hxo4 hxo5 hxl
  generalize S a.lang = la at *
  generalize a.id = a0 at *
  generalize a.ver = a1 at *
  generalize a.kind = a2 at *
  generalize S b.lang = lb' at *
  generalize b.id = b0 at *
  generalize b.ver = b1 at *
  generalize b.kind = b2 at *
  generalize han : a.fields.length = an at *
  generalize hbn : b.fields.length = bn at *
  generalize l.length = kn at *
  generalize hqn : f.subs.length = qn at *
  have HAN := Lib.hid han
  have HBN := Lib.hid hbn
  have HQN := Lib.hid hqn
  clear han hbn hqn
  obtain ⟨ft, hft⟩ : ∃ y, S f.tag = y := ⟨_, rfl⟩
  obtain ⟨fi, hfi⟩ : ∃ y, S f.ind = y := ⟨_, rfl⟩
  obtain ⟨fau, hfa⟩ : ∃ y, f.auth = y := ⟨_, rfl⟩
  rw [hft, hfi, hfa] at cL HY HW0 cSm0 cFf
  rw [hft, hfi, hfa]
  have HFt := Lib.hid (show S f.tag = ft ∧ S f.ind = fi ∧ f.auth = fau from ⟨hft, hfi, hfa⟩)
  clear hft hfi hfa
  go_enter Tryd.func5, Tryd.ntmps5
  go_upto_region 1 with fail
  (try rw [HW0.out])
  clear HW0
  go_wp2_with fail
  refine (cF.out W0 HB0.out).mono ?_
  rintro e w1 ⟨rfl, hb1⟩
  have HW1 := Lib.hid hb1
  have HB1 := Lib.hid (HB0.out.trans (hb1.mono HB0.out.size))
  clear hb1 x0 x1 x2 x3 x4 x5 x6 x7 x8 x9 x10 cF
  obtain ⟨⟨y0, y1, y2, y3⟩, -⟩ := fcells4 (HY.out w1 HW1.out)
  subst h1f h1l
  obtain ⟨e1, -, e2⟩ := Value.slice.inj HX1.out
  subst e1 e2
  clear HX1
  go_wp2_with fail
  refine (cL.out w1 HB1.out).mono ?_
  rintro e w2 ⟨rfl, hb2⟩
  have HW2 := Lib.hid (HW1.out.trans (hb2.mono HW1.out.size))
  have HB2 := Lib.hid (HB1.out.trans (hb2.mono HB1.out.size))
  clear hb2 y0 y1 y2 y3 cL
  obtain ⟨⟨x0, x1, x2, x3, x4⟩, ⟨x5, x6, x7, x8, x9⟩, x10⟩ := pair_cells (HX.out w2 HW2.out)
  go_wp2_with fail
  refine (cM.out w2 HB2.out).mono ?_
  rintro e w3 ⟨mv, fv, tv, rfl, hm, hf, ht, hb3⟩
  obtain ⟨ma, mc, rfl⟩ := hm.form
  obtain ⟨fa, fc, rfl⟩ := hf.form
  obtain ⟨ta, tc, rfl⟩ := ht.form
  rw [HBN.out] at hf ⊢
  rw [NtoI_len] at ht ⊢
  obtain ⟨tn, htn⟩ : ∃ y, TN.length = y := ⟨_, rfl⟩
  rw [htn] at ht HTl HTz HMem ⊢
  have HM3 := Lib.hid hm
  have HF3 := Lib.hid hf
  have HT3 := Lib.hid ht
  have HW3 := Lib.hid (HW2.out.trans (hb3.mono HW2.out.size))
  have HB3 := Lib.hid (HB2.out.trans (hb3.mono HB2.out.size))
  have HS3 := Lib.hid hb3.size
  clear hb3 hm hf ht cM htn x0 x1 x2 x3 x4 x5 x6 x7 x8 x9 x10
  obtain ⟨ca, hca⟩ : ∃ y, (#[.int .i64 a0, .int .i64 a1, .int .i64 a2, .string la, .slice ma ML.length mc] : Array Value) = y := ⟨_, rfl⟩
  obtain ⟨cb, hcb⟩ : ∃ y, (#[.int .i64 a0, .int .i64 b0, .int .i64 b1, .int .i64 b2, .string lb', .slice fa bn fc, .slice ta tn tc] : Array Value) = y := ⟨_, rfl⟩
  obtain ⟨wA, hwA⟩ : ∃ X, (w3.alloc (.cells #[.int .i64 0, .int .i64 0, .int .i64 0, .string ⟨#[]⟩, .slice none 0 0] 31)).alloc (.cells #[.int .i64 0, .int .i64 0, .int .i64 0, .int .i64 0, .string ⟨#[]⟩, .slice none 0 0, .slice none 0 0] 36) = X := ⟨_, rfl⟩
  have hbx : box2W w3 = wA := hwA
  have h1 := box2_one w3
  have h2 := box2_two w3 ca
  rw [hbx] at h1 h2
  have HZ1 := Lib.hid h1
  have HZ2 := Lib.hid h2
  clear h1 h2
  have h1 := box2_a w3 ca cb
  have h2 := box2_b w3 ca cb
  have h3 := box2_below w3 ca cb
  unfold box2F at h1 h2 h3
  rw [hbx] at h1 h2 h3
  clear hbx
  go_upto_region 4 with (first | (refine wpList_store_row rfl 31 (.tmp 5) (.tmp 30) rfl w3.heap.size ca rfl (by rw [← hca]; rfl) 31 _ (by (try rw [hwA]); exact HZ1.out) (by rw [← hca]; kernel_rfl) (by rw [← hca]; rfl) (by rw [← hca]; simp [Value.oneCell']) ?_) | (refine wpList_store_row rfl 36 (.tmp 6) (.tmp 31) rfl (w3.heap.size + 1) cb rfl (by rw [← hcb]; rfl) 36 _ (by (try rw [hwA]); exact HZ2.out) (by rw [← hcb]; kernel_rfl) (by rw [← hcb]; rfl) (by rw [← hcb]; simp [Value.oneCell']) ?_))
  (try rw [hwA])
  obtain ⟨w4, hW7⟩ : ∃ X, (wA.setRow w3.heap.size ca).setRow (w3.heap.size + 1) cb = X := ⟨_, rfl⟩
  rw [hW7] at h1 h2 h3
  rw [← hca] at h1
  rw [← hcb] at h2
  (try rw [hW7])
  have HaN := Lib.hid (Nat.le_refl w3.heap.size)
  obtain ⟨n5, hnA⟩ : ∃ y, w3.heap.size = y := ⟨_, rfl⟩
  rw [hnA] at h1 h2 HaN
  (try rw [hnA])
  have HaE := Lib.hid hnA
  have HaA := Lib.hid h1
  have HaP := Lib.hid h2
  have HaB := Lib.hid h3
  clear h1 h2 h3 hW7 hwA HZ1 HZ2 hca hcb hnA
  have HM4 := Lib.hid (HM3.out.after HaB.out)
  have HF4 := Lib.hid (HF3.out.after HaB.out)
  have HT4 := Lib.hid (HT3.out.after HaB.out)
  have HW4 := Lib.hid (HW3.out.trans (HaB.out.mono HW3.out.size))
  have HB4 := Lib.hid (HB3.out.trans (HaB.out.mono HB3.out.size))
  have HS4 := Lib.hid (show w2.heap.size ≤ n5 from by rw [← HaE.out]; exact HS3.out)
  have HR4 := Lib.hid (Below.refl w4.heap.size w4)
  clear HM3 HF3 HT3 HW3 HB3 HS3 HaB HaN HaE
  go_wp2
  go_loopw [8] (fun s8 wr => ∃ k : Nat, s8 = .int .i64 (k : Int) ∧ k ≤ tn ∧ RowKit.Hid (∀ j, j < k → b.fields.getD (TN.getD j 0) fd0 ≠ f) ∧ RowKit.Hid (Below w4.heap.size w4 wr)) (fun s8 _ => tn - (intOf s8).toNat)
  case atStart => exact ⟨0, rfl, Nat.zero_le _, (fun j hj => by omega), HR4.out⟩
  case round =>
    obtain ⟨k, rfl, hk, HJ, HB⟩ := hrel
    clear HR4
    have hTz := HTz.out
    have i1 : (0 : Int) ≤ (k : Int) := by omega
    have HAr := Lib.hid (fun (W : World) (h : Below wr.heap.size wr W) => ((HB.out.trans (h.mono HB.out.size)).block _ (Array.getElem?_eq_some_iff.1 HaA.out).1).trans HaA.out)
    have HPa := Lib.hid (fun (W : World) (h : Below wr.heap.size wr W) => ((HB.out.trans (h.mono HB.out.size)).block _ (Array.getElem?_eq_some_iff.1 HaP.out).1).trans HaP.out)
    have HBr := Lib.hid (HB4.out.trans (HB.out.mono HB4.out.size))
    have HWr := Lib.hid (HW4.out.trans (HB.out.mono HW4.out.size))
    have HXr := Lib.hid (fun (W : World) (h : Below wr.heap.size wr W) => HX.out W (HWr.out.trans (h.mono HWr.out.size)))
    have HFr := Lib.hid (fun (W : World) (h : Below wr.heap.size wr W) => HY.out W (HWr.out.trans (h.mono HWr.out.size)))
    obtain ⟨⟨-, -, -, -, -, -, p6⟩, -⟩ := pcells16 (HPa.out wr (Below.refl _ _))
    by_cases hkn : k < tn
    · have i2 : (k : Int) < (tn : Int) := by omega
      have hTr := HT4.out.after HB.out
      obtain ⟨ta1, tc1, tg, tO, hta, -, -, htg, htx⟩ := hTr.tl.opened
      rw [NtoI_len] at hta htg htx
      obtain ⟨tn1, htn1⟩ : ∃ y, TN.length = y := ⟨_, rfl⟩
      rw [htn1] at hta htg htx
      obtain ⟨e1, e2, e3⟩ := Value.slice.inj hta
      subst e1 e2 e3
      obtain ⟨e1, -⟩ := htg (by omega)
      subst e1
      obtain ⟨tk, htk⟩ : ∃ y, TN.getD k 0 = y := ⟨_, rfl⟩
      have htl := HTl.out k hkn
      rw [htk] at htl
      have e1 := HXA.out (by omega)
      subst e1
      have i3 : (0 : Int) ≤ (tk : Int) := by omega
      have i4 : (tk : Int) < (bn : Int) := by omega
      have HTr := Lib.hid (fun (W : World) (h : Below wr.heap.size wr W) => show W.cell? ⟨tg, tO + k, none⟩ = some (.int .i64 (tk : Int)) from by rw [htx W h k hkn, NtoI_at, htk])
      obtain ⟨g, hg⟩ : ∃ y, b.fields.getD tk fd0 = y := ⟨_, rfl⟩
      have HGr := Lib.hid (fun (W : World) (h : Below wr.heap.size wr W) => HXO.out W (HBr.out.trans (h.mono HBr.out.size)) tk htl)
      have cSm := Lib.hid (fun (W : World) (h : Below wr.heap.size wr W) => cSm0.out W (HBr.out.trans (h.mono HBr.out.size)) tk htl)
      obtain ⟨ga, gc, hgu, -, -⟩ := HXL.out tk htl
      rw [hg] at HGr cSm hgu
      rw [hgu] at HGr cSm
      obtain ⟨sm, hsm⟩ : ∃ y, sameB g f = y := ⟨_, rfl⟩
      rw [hsm] at cSm
      have HSm := Lib.hid (show sm = false → b.fields.getD (TN.getD k 0) fd0 ≠ f from fun e h => by
        rw [htk, hg] at h
        rw [← hsm, h] at e
        simp [sameB] at e)
      have HJk := Lib.hid HJ.out
      generalize g.subs.length = gn at *
      generalize S g.tag = gt at *
      generalize S g.ind = gi at *
      generalize g.auth = gau at *
      clear hTr hta htg htx htn1 htk htl hg hgu hsm HJ
      clear p6
      obtain ⟨⟨-, -, -, -, -, -, p6⟩, -⟩ := pcells16 (HPa.out wr (Below.refl _ _))
      go_upto_region 9 with fail
      clear p6
      apply wp_region_inv (V := [.eq (.pointer (some ⟨w.heap.size, 5, none⟩)), .eq (.pointer (some ⟨w.heap.size, 9, none⟩)), .eq (.slice (some ⟨xg0, xo, none⟩) bn xc), .eq (.pointer (some ⟨n5 + 1, 6, none⟩)), .eq (.slice (some ⟨tg, tO, none⟩) tn tc), .eq (.int .i64 (k : Int)), .eq (.pointer (some ⟨tg, tO + k, none⟩)), .eq (.int .i64 (tk : Int)), .eq (.pointer (some ⟨xg0, xo + tk * 4, none⟩)), .eq (.agg #[.string gt, .string gi, .slice ga gn gc, .int .i64 gau]), .eq (.agg #[.string ft, .string fi, .slice qa qn qc, .int .i64 fau]), .eq (.bool sm)])
      case hm => kernel_rfl
      case hd => kernel_rfl
      case hb => kernel_rfl
      case hA =>
        intro vs
        simp only [puts, Act.put, List.setIfInBounds_toArray, List.set_cons_zero, List.set_cons_succ]
        exact rfl
      case hob =>
        refine Obs.cons _ _ _ _ _ _ ?o0 (Obs.cons _ _ _ _ _ _ ?o1 (Obs.cons _ _ _ _ _ _ ?o2 (Obs.cons _ _ _ _ _ _ ?o3 (Obs.cons _ _ _ _ _ _ ?o4 (Obs.cons _ _ _ _ _ _ ?o5 (Obs.cons _ _ _ _ _ _ ?o6 (Obs.cons _ _ _ _ _ _ ?o7 (Obs.cons _ _ _ _ _ _ ?o8 (Obs.cons _ _ _ _ _ _ ?o9 (Obs.cons _ _ _ _ _ _ ?o10 (Obs.cons _ _ _ _ _ _ ?o11 (Obs.nil _ _ _ _ _ _))))))))))))
        case o0 =>
          intro vs W hw hd K hK
          go_simp
          exact hK.out _ _ rfl (Below.refl _ _)
        case o1 =>
          intro vs W hw hd K hK
          have h0 : vs 0 = .pointer (some ⟨w.heap.size, 5, none⟩) := hd 0 (by kernel_rfl)
          simp only [Nat.reduceAdd, h0] at hK ⊢
          go_simp
          exact hK.out _ _ rfl (Below.refl _ _)
        case o2 =>
          intro vs W hw hd K hK
          have h1 : vs 1 = .pointer (some ⟨w.heap.size, 9, none⟩) := hd 1 (by kernel_rfl)
          obtain ⟨-, ⟨x5, x6, x7, x8, x9⟩, -⟩ := pair_cells (HXr.out W hw)
          simp only [Nat.reduceAdd, h1] at hK ⊢
          go_simp
          exact hK.out _ _ rfl (Below.refl _ _)
        case o3 =>
          intro vs W hw hd K hK
          go_simp
          exact hK.out _ _ rfl (Below.refl _ _)
        case o4 =>
          intro vs W hw hd K hK
          have h3 : vs 3 = .pointer (some ⟨n5 + 1, 6, none⟩) := hd 3 (by kernel_rfl)
          obtain ⟨⟨-, -, -, -, -, -, p6⟩, -⟩ := pcells16 (HPa.out W hw)
          simp only [Nat.reduceAdd, h3] at hK ⊢
          go_simp
          exact hK.out _ _ rfl (Below.refl _ _)
        case o5 =>
          intro vs W hw hd K hK
          go_simp
          exact hK.out _ _ rfl (Below.refl _ _)
        case o6 =>
          intro vs W hw hd K hK
          have h4 : vs 4 = .slice (some ⟨tg, tO, none⟩) tn tc := hd 4 (by kernel_rfl)
          have h5 : vs 5 = .int .i64 (k : Int) := hd 5 (by kernel_rfl)
          simp only [Nat.reduceAdd, h4, h5] at hK ⊢
          go_simp
          exact hK.out _ _ rfl (Below.refl _ _)
        case o7 =>
          intro vs W hw hd K hK
          have h6 : vs 6 = .pointer (some ⟨tg, tO + k, none⟩) := hd 6 (by kernel_rfl)
          have t0 := HTr.out W hw
          simp only [Nat.reduceAdd, h6] at hK ⊢
          go_simp
          exact hK.out _ _ rfl (Below.refl _ _)
        case o8 =>
          intro vs W hw hd K hK
          have h2 : vs 2 = .slice (some ⟨xg0, xo, none⟩) bn xc := hd 2 (by kernel_rfl)
          have h7 : vs 7 = .int .i64 (tk : Int) := hd 7 (by kernel_rfl)
          simp only [Nat.reduceAdd, h2, h7] at hK ⊢
          go_simp
          exact hK.out _ _ rfl (Below.refl _ _)
        case o9 =>
          intro vs W hw hd K hK
          have h8 : vs 8 = .pointer (some ⟨xg0, xo + tk * 4, none⟩) := hd 8 (by kernel_rfl)
          obtain ⟨⟨c0, c1, c2, c3⟩, -⟩ := HGr.out W hw
          simp only [Nat.reduceAdd, h8] at hK ⊢
          go_simp
          exact hK.out _ _ rfl (Below.refl _ _)
        case o10 =>
          intro vs W hw hd K hK
          obtain ⟨⟨f0, f1, f2, f3⟩, -⟩ := fcells4 (HFr.out W hw)
          go_simp
          exact hK.out _ _ rfl (Below.refl _ _)
        case o11 =>
          intro vs W hw hd K hK
          have h9 : vs 9 = .agg #[.string gt, .string gi, .slice ga gn gc, .int .i64 gau] := hd 9 (by kernel_rfl)
          have h10 : vs 10 = .agg #[.string ft, .string fi, .slice qa qn qc, .int .i64 fau] := hd 10 (by kernel_rfl)
          simp only [Nat.reduceAdd, h9, h10] at hK ⊢
          go_simp
          refine (cSm.out W hw).mono ?_
          rintro e W' ⟨rfl, hb'⟩
          exact hK.out _ _ rfl hb'
      case hfin =>
        intro vs wq hw hd
        have h11 : vs 11 = .bool sm := hd 11 (by decide)
        simp only [Nat.reduceAdd, h11]
        have HBq := Lib.hid (HBr.out.trans (hw.mono HBr.out.size))
        have HBw := Lib.hid (HB.out.trans (hw.mono HB.out.size))
        clear hd h11 hw HTr HGr cSm HXr HFr HPa HAr
        cases sm with
        | true =>
          go_wp2_with fail
          refine (lalive16_any wq (HE.out wq HBq.out)).mono ?_
          rintro e wz ⟨rfl, hb⟩
          have HBz := Lib.hid (HBq.out.trans (hb.mono HBq.out.size))
          clear hb
          go_wp2
          first | exact ⟨rfl, HBz.out⟩ | (go_ret; exact ⟨rfl, HBz.out⟩)
        | false =>
          have HJ2 : RowKit.Hid (∀ j, j < k + 1 → b.fields.getD (TN.getD j 0) fd0 ≠ f) := by
            intro j hj
            rcases Nat.lt_or_ge j k with h | h
            · exact HJk.out j h
            · rw [show j = k by omega]; exact HSm.out (by rfl)
          clear HJk HSm
          go_wp2
          go_roundw
          case rel => exact ⟨k + 1, by go_num, by omega, HJ2.out, HBw.out⟩
          case measure => simp [intOf]; omega
    · obtain rfl : k = tn := by omega
      have HBk := Lib.hid (HBack.out (HMem.out HJ.out))
      clear HBack HMem HJ hkn HXO HXL HXA cSm0
      have HSrc := Lib.hid ((HM4.out.after HB.out).src w)
      have HQw : RowKit.Hid (SQ w w2.heap.size (.slice qa qn qc) f.subs wr) := .inr (HQ.out w (Below.refl _ _))
      have HFv := Lib.hid (HF4.out.after HB.out)
      have HTv := Lib.hid (HT4.out.after HB.out)
      go_upto_region 11 with fail
      clear p6
      apply wp_region_imp (imp := fun i => decide (i ∈ [0, 3, 5, 6])) (X := fun d vs W => Xq w w2.heap.size wr ML f (.slice qa qn qc) d vs W) (V := [(fun _ => True), (fun v => v = .pointer (some ⟨n5, 4, none⟩)), (fun v => v = .slice ma ML.length mc), (fun _ => True), (fun v => v = .agg #[.string ft, .string fi, .slice qa qn qc, .int .i64 fau]), (fun _ => True), (fun _ => True), (fun v => v = .pointer (some ⟨n5, 4, none⟩))]) (n := 8) (f := 6)
      case hX0 => exact fun vs => Xq.init vs
      case hXst => exact fun d vs u w h hb => h.below hb
      case hXo =>
        intro d vs w i v hi h
        have hi := of_decide_eq_false hi
        simp only [List.mem_cons, List.not_mem_nil, or_false, not_or] at hi
        exact h.other i v (by omega)
      case hm => kernel_rfl
      case hd => kernel_rfl
      case hb => kernel_rfl
      case hA =>
        intro vs
        simp only [puts, Act.put, List.setIfInBounds_toArray, List.set_cons_zero, List.set_cons_succ]
        exact rfl
      case hlast => kernel_rfl
      case hol => exact rfl
      case hob =>
        refine ObsI.cons _ _ _ _ _ _ _ ?o0 (ObsI.cons _ _ _ _ _ _ _ ?o1 (ObsI.cons _ _ _ _ _ _ _ ?o2 (ObsI.cons _ _ _ _ _ _ _ ?o3 (ObsI.cons _ _ _ _ _ _ _ ?o4 (ObsI.cons _ _ _ _ _ _ _ ?o5 (ObsI.cons _ _ _ _ _ _ _ ?o6 (ObsI.cons _ _ _ _ _ _ _ ?o7 (ObsI.nil _ _ _ _ _ _ _))))))))
        case o0 =>
          intro d vs W hdk hdep hcl hv hX K hK
          have hn3 : d 3 = false := by
            cases hq : d 3 with
            | false => rfl
            | true => exact absurd (hcl 3 _ 0 rfl (by kernel_rfl) hq) (by rw [hdk]; decide)
          have hn6 : d 6 = false := by
            cases hq : d 6 with
            | false => rfl
            | true => exact absurd (hcl 6 _ 3 rfl (by kernel_rfl) hq) (by rw [hn3]; decide)
          go_simp
          exact hK.out _ _ (fun _ => hX.s0 hn3 hn6) (fun h => absurd h (by decide))
        case o1 =>
          intro d vs W hdk hdep hcl hv hX K hK
          go_simp
          exact hK.out _ _ (fun h => absurd h (by decide)) (fun _ => ⟨rfl, Below.refl _ _⟩)
        case o2 =>
          intro d vs W hdk hdep hcl hv hX K hK
          have h1 : vs 1 = .pointer (some ⟨n5, 4, none⟩) := hv 1 (by kernel_rfl) (by decide)
          obtain ⟨⟨-, -, -, -, m4⟩, -⟩ := rcells (HAr.out W hX.low)
          simp only [Nat.reduceAdd, h1] at hK ⊢
          go_simp
          exact hK.out _ _ (fun h => absurd h (by decide)) (fun _ => ⟨rfl, Below.refl _ _⟩)
        case o3 =>
          intro d vs W hdk hdep hcl hv hX K hK
          have hn6 : d 6 = false := by
            cases hq : d 6 with
            | false => rfl
            | true => exact absurd (hcl 6 _ 3 rfl (by kernel_rfl) hq) (by rw [hdk]; decide)
          have h2 : vs 2 = .slice ma ML.length mc := hv 2 (by kernel_rfl) (by decide)
          obtain ⟨v', w', hr, hx⟩ := hX.s3 HSrc.out HLz.out (hdep 0 (by kernel_rfl)) hdk hn6 29
          apply step_append_run16 (d := .tmp 68) (s := .tmp 70) (t1 := 29) (t2 := 29) (u := vs 0) (x := .slice ma ML.length mc) (v := v') (w' := w')
          case hgd => rfl
          case ho => rfl
          case hd => simp [Act.eval]
          case hs => simp [Act.eval, h2]
          case hrun => exact hr
          case h => exact hK.out _ _ (fun _ => hx) (fun h => absurd h (by decide))
        case o4 =>
          intro d vs W hdk hdep hcl hv hX K hK
          obtain ⟨⟨f0, f1, f2, f3⟩, -⟩ := fcells4 (HFr.out W hX.low)
          go_simp
          exact hK.out _ _ (fun h => absurd h (by decide)) (fun _ => ⟨rfl, Below.refl _ _⟩)
        case o5 =>
          intro d vs W hdk hdep hcl hv hX K hK
          have h4 : vs 4 = .agg #[.string ft, .string fi, .slice qa qn qc, .int .i64 fau] := hv 4 (by kernel_rfl) (by decide)
          have hn6 : d 6 = false := by
            cases hq : d 6 with
            | false => rfl
            | true => exact absurd (hcl 6 _ 5 rfl (by kernel_rfl) hq) (by rw [hdk]; decide)
          simp only [Nat.reduceAdd, h4] at hK ⊢
          have hx := hX.s5 hn6
          rw [HFt.out.1, HFt.out.2.1, HFt.out.2.2] at hx
          have HX5 := Lib.hid hx
          clear hx
          go_simp
          exact hK.out _ _ (fun _ => HX5.out) (fun h => absurd h (by decide))
        case o6 =>
          intro d vs W hdk hdep hcl hv hX K hK
          obtain ⟨b', v', w', e5, hr, hx⟩ := hX.s6 HQw.out HLz.out (hdep 3 (by kernel_rfl)) (hdep 5 (by kernel_rfl)) hdk 29
          apply step_append_run16 (d := .tmp 71) (s := .tmp 73) (t1 := 29) (t2 := 29) (u := vs 3) (x := .slice (some ⟨b', 0, none⟩) 1 1) (v := v') (w' := w')
          case hgd => rfl
          case ho => rfl
          case hd => simp [Act.eval]
          case hs => simp [Act.eval, e5]
          case hrun => exact hr
          case h => exact hK.out _ _ (fun _ => hx) (fun h => absurd h (by decide))
        case o7 =>
          intro d vs W hdk hdep hcl hv hX K hK
          go_simp
          exact hK.out _ _ (fun h => absurd h (by decide)) (fun _ => ⟨rfl, Below.refl _ _⟩)
      case hfin =>
      intro d vs W2 hall hX hv
      have h7 : vs 7 = .pointer (some ⟨n5, 4, none⟩) := hv 7 (by decide) (by decide)
      have hF6 := hX.c6 (hall 6 (by decide))
      obtain ⟨na, nc, h6⟩ := hF6.form
      rw [show (ML ++ [f]).length = ML.length + 1 by simp] at h6
      rw [h6] at hF6
      have hbx := HAr.out W2 hX.low
      obtain ⟨⟨-, -, -, -, m4⟩, -, -, -, -, g4⟩ := rcells hbx
      obtain ⟨W5, hW5⟩ : ∃ X, W2.setCell ⟨n5, 4, none⟩ (.slice na (ML.length + 1) nc) = X := ⟨_, rfl⟩
      have hs5 : W5.heap.size = W2.heap.size := by rw [← hW5]; simp [World.setCell]
      have ho5 : ∀ i, i ≠ n5 → W5.heap[i]? = W2.heap[i]? := fun i hi => by rw [← hW5]; exact heap_setn _ _ _ _ hi
      have hb5 : W5.heap[n5]? = some (.cells #[.int .i64 a0, .int .i64 a1, .int .i64 a2, .string la, .slice na (ML.length + 1) nc] 31 (0, 0)) := by
        rw [← hW5]
        simp [World.setCell, Array.getElem?_modify, hbx]
      have hS4 := HS4.out
      have hS2 := HB2.out.size
      have hbW5 : Below w.heap.size w W5 := by rw [← hW5]; exact (HBr.out.trans (hX.low.mono HBr.out.size)).setCell (p := ⟨n5, 4, none⟩) (by show w.heap.size ≤ n5; omega) _
      have hP5 := (ho5 (n5 + 1) (by omega)).trans (HPa.out W2 hX.low)
      have hX5 := (ho5 w.heap.size (typ_ne (HXr.out W2 hX.low) hbx (by decide))).trans (HXr.out W2 hX.low)
      have hY5 := (ho5 (w.heap.size + 1) (typ_ne (HFr.out W2 hX.low) hbx (by decide))).trans (HFr.out W2 hX.low)
      have hM5 : FL (.slice na (ML.length + 1) nc) (ML ++ [f]) W5 := (hF6.kept (fun b cs t hc ht => ho5 b (typ_ne hc hbx (by rcases ht with rfl | rfl <;> decide)))).fl hbW5
      have hF5 : FL (.slice fa bn fc) b.fields W5 := ((HFv.out.after hX.low).kept (KpF.but (g := n5) (Nat.le_of_eq hs5.symm) (fun i hi _ => ho5 i hi) hbx (by decide) (by decide))).fl
      have hT5 : TL (.slice ta k tc) (NtoI TN) W5 := ((HTv.out.after hX.low).keptT (fun i cs _ hi => ho5 i (typ_ne hi hbx (by decide)))).tl
      have cS5 := Lib.hid (cSp.out W5 hbW5 _ _ _ hM5 hF5 hT5)
      have cW5 := Lib.hid (fun (W : World) (h : Below W5.heap.size W5 W) => cW.out W (hbW5.trans (h.mono hbW5.size)) _ _ _ (hM5.after h) (hF5.after h) (hT5.after h))
      rw [HBk.out] at cS5 cW5
      dsimp only at cS5 cW5
      have HR5 := Lib.hid (fun (W : World) (h : Below W5.heap.size W5 W) => (h.block _ (Array.getElem?_eq_some_iff.1 hb5).1).trans hb5)
      have HP5 := Lib.hid (fun (W : World) (h : Below W5.heap.size W5 W) => (h.block _ (Array.getElem?_eq_some_iff.1 hP5).1).trans hP5)
      have HX5 := Lib.hid (fun (W : World) (h : Below W5.heap.size W5 W) => (h.block _ (Array.getElem?_eq_some_iff.1 hX5).1).trans hX5)
      have HY5 := Lib.hid (fun (W : World) (h : Below W5.heap.size W5 W) => (h.block _ (Array.getElem?_eq_some_iff.1 hY5).1).trans hY5)
      have HB5 := Lib.hid hbW5
      have HN5 := Lib.hid (show w.heap.size ≤ n5 from by omega)
      obtain ⟨⟨x0, x1, x2, x3, x4⟩, -⟩ := rcells hb5
      obtain ⟨⟨p0, p1, p2, p3, p4, p5, p6⟩, -⟩ := pcells16 hP5
      simp only [Nat.reduceAdd, h6, h7]
      clear hF6 hs5 ho5 hb5 hS4 hS2 hbW5 hP5 hX5 hY5 hM5 hF5 hT5 h6 h7 hall hX hv hbx cSp cW HXr HFr HPa HAr HFv HTv HSrc HQw HM4 HF4 HT4 HaA HaP HBk HB HWr HBr HW4 HB4 HS4 HLz HTz hTz
      go_simp
      (try rw [hW5])
      clear hW5 m4 g4
      go_wp2_with fail
      refine cS5.out.mono ?_
      rintro e w6 ⟨rv, gv, rfl, hnw, hb6⟩
      clear x0 x1 x2 x3 x4 p0 p1 p2 p3 p4 p5 p6 cS5
      obtain ⟨hA6, hG6⟩ := hnw.here
      obtain ⟨ra, rc, rg, ro, rus, hr1, hr2, hr3, hr4, hr5⟩ := hA6.open16
      rw [List.length_append, List.length_singleton, HAN.out] at hr1 hr2 hr4 hr5
      obtain rfl := hr1
      obtain rfl := hr4 (by omega)
      obtain ⟨ga, gc, rfl, -, -⟩ := hG6.length
      rw [HBN.out] at hG6 ⊢
      have HR6 := Lib.hid hr5
      have HA6 := Lib.hid hA6
      have HG6 := Lib.hid hG6
      have HC6 := Lib.hid hr2
      have HM6 := Lib.hid hr3
      have HW6 := Lib.hid hb6
      have HS6 := Lib.hid (Nat.le_trans HN5.out (show n5 ≤ w6.heap.size from by have := (Array.getElem?_eq_some_iff.1 (HR5.out w6 hb6)).1; omega))
      clear hnw hA6 hG6 hr2 hr3 hr4 hr5 hb6
      obtain ⟨ca, hca⟩ : ∃ y, (#[.int .i64 a0, .int .i64 a1, .int .i64 a2, .string la, .slice (some ⟨rg, ro, none⟩) (an + 1) rc] : Array Value) = y := ⟨_, rfl⟩
      obtain ⟨cb, hcb⟩ : ∃ y, (#[.int .i64 b0, .int .i64 b1, .int .i64 b2, .string lb', .slice ga bn gc] : Array Value) = y := ⟨_, rfl⟩
      obtain ⟨wA, hwA⟩ : ∃ X, (w6.alloc (.cells #[.int .i64 0, .int .i64 0, .int .i64 0, .string ⟨#[]⟩, .slice none 0 0] 31)).alloc (.cells #[.int .i64 0, .int .i64 0, .int .i64 0, .string ⟨#[]⟩, .slice none 0 0] 31) = X := ⟨_, rfl⟩
      have hbx : box3W w6 = wA := hwA
      have h1 := box3_one w6
      have h2 := box3_two w6 ca
      rw [hbx] at h1 h2
      have HZ1 := Lib.hid h1
      have HZ2 := Lib.hid h2
      clear h1 h2
      have h1 := box3_a w6 ca cb
      have h2 := box3_b w6 ca cb
      have h3 := box3_below w6 ca cb
      rw [hbx] at h1 h2 h3
      clear hbx
      go_upto_region 13 with (first | (refine wpList_store_row rfl 31 (.tmp 9) (.tmp 80) rfl w6.heap.size ca rfl (by rw [← hca]; rfl) 31 _ (by (try rw [hwA]); exact HZ1.out) (by rw [← hca]; kernel_rfl) (by rw [← hca]; rfl) (by rw [← hca]; simp [Value.oneCell']) ?_) | (refine wpList_store_row rfl 31 (.tmp 10) (.tmp 81) rfl (w6.heap.size + 1) cb rfl (by rw [← hcb]; rfl) 31 _ (by (try rw [hwA]); exact HZ2.out) (by rw [← hcb]; kernel_rfl) (by rw [← hcb]; rfl) (by rw [← hcb]; simp [Value.oneCell']) ?_))
      (try rw [hwA])
      obtain ⟨w7, hW7⟩ : ∃ X, (wA.setRow w6.heap.size ca).setRow (w6.heap.size + 1) cb = X := ⟨_, rfl⟩
      rw [hW7] at h1 h2 h3
      rw [← hca] at h1
      rw [← hcb] at h2
      (try rw [hW7])
      have HbN := Lib.hid (Nat.le_refl w6.heap.size)
      obtain ⟨n9, hnA⟩ : ∃ y, w6.heap.size = y := ⟨_, rfl⟩
      rw [hnA] at h1 h2 HbN
      (try rw [hnA])
      have HbE := Lib.hid hnA
      have HbA := Lib.hid h1
      have HbP := Lib.hid h2
      have HbB := Lib.hid h3
      clear h1 h2 h3 hW7 hwA HZ1 HZ2 hca hcb hnA
      have HW7 := Lib.hid (HW6.out.trans (HbB.out.mono HW6.out.size))
      have HE7 := Lib.hid (HB5.out.trans (HW7.out.mono HB5.out.size))
      obtain ⟨⟨-, -, -, -, x4⟩, -, -⟩ := pair_cells (HX5.out w7 HW7.out)
      have HR14 := Lib.hid (fun (W : World) (h : Below w7.heap.size w7 W) => HR5.out W (HW7.out.trans (h.mono HW7.out.size)))
      have HP14 := Lib.hid (fun (W : World) (h : Below w7.heap.size w7 W) => HP5.out W (HW7.out.trans (h.mono HW7.out.size)))
      have HX14 := Lib.hid (fun (W : World) (h : Below w7.heap.size w7 W) => HX5.out W (HW7.out.trans (h.mono HW7.out.size)))
      have HF14 := Lib.hid (fun (W : World) (h : Below w7.heap.size w7 W) => HY5.out W (HW7.out.trans (h.mono HW7.out.size)))
      have HA14 := Lib.hid (fun (W : World) (h : Below w7.heap.size w7 W) => (h.block _ (Array.getElem?_eq_some_iff.1 HbA.out).1).trans HbA.out)
      have HB14 := Lib.hid (fun (W : World) (h : Below w7.heap.size w7 W) => (h.block _ (Array.getElem?_eq_some_iff.1 HbP.out).1).trans HbP.out)
      have hq := (HR6.out w6 (Below.refl _ _) an (by omega)).2
      rw [show (a.fields ++ [f]).getD an fd0 = f from by rw [← HAN.out]; exact getD_last16 _ _] at hq
      obtain ⟨lqa, lqc, hlq, -, -⟩ := hq.length
      rw [HQN.out] at hlq
      have HL14 := Lib.hid (fun (W : World) (h : Below w7.heap.size w7 W) => show W.cell? ⟨rg, ro + an * 4, none⟩ = some (.string ft) ∧ W.cell? ⟨rg, ro + an * 4 + 1, none⟩ = some (.string fi) ∧ W.cell? ⟨rg, ro + an * 4 + 2, none⟩ = some (.slice lqa qn lqc) ∧ W.cell? ⟨rg, ro + an * 4 + 3, none⟩ = some (.int .i64 fau) from by
        have := (HR6.out W (HbB.out.trans (h.mono HbB.out.size)) an (by omega)).1
        rwa [show (a.fields ++ [f]).getD an fd0 = f from by rw [← HAN.out]; exact getD_last16 _ _, HFt.out.1, HFt.out.2.1, HFt.out.2.2, hlq] at this)
      have cS14 := Lib.hid (fun (W : World) (h : Below w7.heap.size w7 W) => cFf.out W (.slice lqa qn lqc) (.slice qa qn qc) (by have := (HR6.out W (HbB.out.trans (h.mono HbB.out.size)) an (by omega)).2; rwa [show (a.fields ++ [f]).getD an fd0 = f from by rw [← HAN.out]; exact getD_last16 _ _, hlq] at this) (HQ.out W (HE7.out.trans (h.mono HE7.out.size))))
      have cWh := Lib.hid (fun (W : World) (h : Below w7.heap.size w7 W) => cW5.out W (HW7.out.trans (h.mono HW7.out.size)))
      have HZ7 := Lib.hid (Nat.le_of_eq HbE.out)
      have HWr : RowKit.Hid (IntKind.i64.wrap ((an : Int) + 1) = (an : Int) + 1) := by
        have h1 := HC6.out
        have h2 := HM6.out
        unfold maxLen at h2
        unfold RowKit.Hid
        rw [IntKind.wrap_i64]
        omega
      clear hq hlq cW5 cFf HR5 HP5 HX5 HY5 HbA HbP HbE HbN
      go_upto_region 14 with fail
      clear x4
      apply wp_region_inv (V := [.eq (.int .i64 0), .eq (.bool false), .eq (.bool false), .eq (.agg #[.int .i64 a0, .int .i64 a1, .int .i64 a2, .string la, .slice na (ML.length + 1) nc]), .eq (.agg #[.int .i64 a0, .int .i64 b0, .int .i64 b1, .int .i64 b2, .string lb', .slice fa bn fc, .slice ta k tc]), .eq (.bool true), .eq (.bool false), .eq (.bool false), .eq (.bool false), .eq (.pointer (some ⟨n9, 4, none⟩)), .eq (.slice (some ⟨rg, ro, none⟩) (an + 1) rc), .eq (.int .i64 ((an : Int) + 1)), .eq (.int .i64 (an : Int)), .eq (.int .i64 ((an : Int) + 1)), .eq (.bool false), .eq (.bool false), .eq (.bool false), .eq (.pointer (some ⟨n9, 4, none⟩)), .eq (.slice (some ⟨rg, ro, none⟩) (an + 1) rc), .eq (.int .i64 (an : Int)), .eq (.pointer (some ⟨rg, ro + an * 4, none⟩)), .eq (.agg #[.string ft, .string fi, .slice lqa qn lqc, .int .i64 fau]), .eq (.agg #[.string ft, .string fi, .slice qa qn qc, .int .i64 fau]), .eq (.bool true), .eq (.bool false), .eq (.bool false)])
      case hm => kernel_rfl
      case hd => kernel_rfl
      case hb => kernel_rfl
      case hA =>
        intro vs
        simp only [puts, Act.put, List.setIfInBounds_toArray, List.set_cons_zero, List.set_cons_succ]
        exact rfl
      case hob =>
        refine Obs.cons _ _ _ _ _ _ ?o0 (Obs.cons _ _ _ _ _ _ ?o1 (Obs.cons _ _ _ _ _ _ ?o2 (Obs.cons _ _ _ _ _ _ ?o3 (Obs.cons _ _ _ _ _ _ ?o4 (Obs.cons _ _ _ _ _ _ ?o5 (Obs.cons _ _ _ _ _ _ ?o6 (Obs.cons _ _ _ _ _ _ ?o7 (Obs.cons _ _ _ _ _ _ ?o8 (Obs.cons _ _ _ _ _ _ ?o9 (Obs.cons _ _ _ _ _ _ ?o10 (Obs.cons _ _ _ _ _ _ ?o11 (Obs.cons _ _ _ _ _ _ ?o12 (Obs.cons _ _ _ _ _ _ ?o13 (Obs.cons _ _ _ _ _ _ ?o14 (Obs.cons _ _ _ _ _ _ ?o15 (Obs.cons _ _ _ _ _ _ ?o16 (Obs.cons _ _ _ _ _ _ ?o17 (Obs.cons _ _ _ _ _ _ ?o18 (Obs.cons _ _ _ _ _ _ ?o19 (Obs.cons _ _ _ _ _ _ ?o20 (Obs.cons _ _ _ _ _ _ ?o21 (Obs.cons _ _ _ _ _ _ ?o22 (Obs.cons _ _ _ _ _ _ ?o23 (Obs.cons _ _ _ _ _ _ ?o24 (Obs.cons _ _ _ _ _ _ ?o25 (Obs.nil _ _ _ _ _ _))))))))))))))))))))))))))
        case o0 =>
          intro vs W hw hd K hK
          go_simp
          exact hK.out _ _ rfl (Below.refl _ _)
        case o1 =>
          intro vs W hw hd K hK
          have h0 : vs 0 = .int .i64 0 := hd 0 (by kernel_rfl)
          simp only [Nat.reduceAdd, h0] at hK ⊢
          go_simp
          exact hK.out _ _ rfl (Below.refl _ _)
        case o2 =>
          intro vs W hw hd K hK
          have h1 : vs 1 = .bool false := hd 1 (by kernel_rfl)
          simp only [Nat.reduceAdd, h1] at hK ⊢
          go_simp
          exact hK.out _ _ rfl (Below.refl _ _)
        case o3 =>
          intro vs W hw hd K hK
          have h2 : vs 2 = .bool false := hd 2 (by kernel_rfl)
          obtain ⟨⟨x0, x1, x2, x3, x4⟩, -⟩ := rcells (HR14.out W hw)
          simp only [Nat.reduceAdd, h2] at hK ⊢
          go_simp
          exact hK.out _ _ rfl (Below.refl _ _)
        case o4 =>
          intro vs W hw hd K hK
          have h2 : vs 2 = .bool false := hd 2 (by kernel_rfl)
          obtain ⟨⟨x0, x1, x2, x3, x4, x5, x6⟩, -⟩ := pcells16 (HP14.out W hw)
          simp only [Nat.reduceAdd, h2] at hK ⊢
          go_simp
          exact hK.out _ _ rfl (Below.refl _ _)
        case o5 =>
          intro vs W hw hd K hK
          have h2 : vs 2 = .bool false := hd 2 (by kernel_rfl)
          have h3 : vs 3 = .agg #[.int .i64 a0, .int .i64 a1, .int .i64 a2, .string la, .slice na (ML.length + 1) nc] := hd 3 (by kernel_rfl)
          have h4 : vs 4 = .agg #[.int .i64 a0, .int .i64 b0, .int .i64 b1, .int .i64 b2, .string lb', .slice fa bn fc, .slice ta k tc] := hd 4 (by kernel_rfl)
          simp only [Nat.reduceAdd, h2, h3, h4] at hK ⊢
          go_simp
          refine (cWh.out W hw).mono ?_
          rintro e W' ⟨rfl, hb'⟩
          exact hK.out _ _ rfl hb'
        case o6 =>
          intro vs W hw hd K hK
          have h2 : vs 2 = .bool false := hd 2 (by kernel_rfl)
          have h5 : vs 5 = .bool true := hd 5 (by kernel_rfl)
          simp only [Nat.reduceAdd, h2, h5] at hK ⊢
          go_simp
          exact hK.out _ _ rfl (Below.refl _ _)
        case o7 =>
          intro vs W hw hd K hK
          have h2 : vs 2 = .bool false := hd 2 (by kernel_rfl)
          have h6 : vs 6 = .bool false := hd 6 (by kernel_rfl)
          simp only [Nat.reduceAdd, h2, h6] at hK ⊢
          go_simp
          exact hK.out _ _ rfl (Below.refl _ _)
        case o8 =>
          intro vs W hw hd K hK
          have h7 : vs 7 = .bool false := hd 7 (by kernel_rfl)
          simp only [Nat.reduceAdd, h7] at hK ⊢
          go_simp
          exact hK.out _ _ rfl (Below.refl _ _)
        case o9 =>
          intro vs W hw hd K hK
          have h8 : vs 8 = .bool false := hd 8 (by kernel_rfl)
          simp only [Nat.reduceAdd, h8] at hK ⊢
          go_simp
          exact hK.out _ _ rfl (Below.refl _ _)
        case o10 =>
          intro vs W hw hd K hK
          have h8 : vs 8 = .bool false := hd 8 (by kernel_rfl)
          have h9 : vs 9 = .pointer (some ⟨n9, 4, none⟩) := hd 9 (by kernel_rfl)
          obtain ⟨⟨-, -, -, -, x4⟩, -⟩ := rcells (HA14.out W hw)
          simp only [Nat.reduceAdd, h8, h9] at hK ⊢
          go_simp
          exact hK.out _ _ rfl (Below.refl _ _)
        case o11 =>
          intro vs W hw hd K hK
          have h8 : vs 8 = .bool false := hd 8 (by kernel_rfl)
          have h10 : vs 10 = .slice (some ⟨rg, ro, none⟩) (an + 1) rc := hd 10 (by kernel_rfl)
          simp only [Nat.reduceAdd, h8, h10] at hK ⊢
          go_simp
          exact hK.out _ _ rfl (Below.refl _ _)
        case o12 =>
          intro vs W hw hd K hK
          have h8 : vs 8 = .bool false := hd 8 (by kernel_rfl)
          simp only [Nat.reduceAdd, h8] at hK ⊢
          go_simp
          exact hK.out _ _ rfl (Below.refl _ _)
        case o13 =>
          intro vs W hw hd K hK
          have h8 : vs 8 = .bool false := hd 8 (by kernel_rfl)
          have h12 : vs 12 = .int .i64 (an : Int) := hd 12 (by kernel_rfl)
          simp only [Nat.reduceAdd, h8, h12] at hK ⊢
          go_simp
          first | exact hK.out _ _ rfl (Below.refl _ _) | exact hK.out _ _ (congrArg (Value.int .i64) HWr.out) (Below.refl _ _)
        case o14 =>
          intro vs W hw hd K hK
          have h8 : vs 8 = .bool false := hd 8 (by kernel_rfl)
          have h11 : vs 11 = .int .i64 ((an : Int) + 1) := hd 11 (by kernel_rfl)
          have h13 : vs 13 = .int .i64 ((an : Int) + 1) := hd 13 (by kernel_rfl)
          simp only [Nat.reduceAdd, h8, h11, h13] at hK ⊢
          go_simp
          exact hK.out _ _ rfl (Below.refl _ _)
        case o15 =>
          intro vs W hw hd K hK
          have h8 : vs 8 = .bool false := hd 8 (by kernel_rfl)
          have h14 : vs 14 = .bool false := hd 14 (by kernel_rfl)
          simp only [Nat.reduceAdd, h8, h14] at hK ⊢
          go_simp
          exact hK.out _ _ rfl (Below.refl _ _)
        case o16 =>
          intro vs W hw hd K hK
          have h15 : vs 15 = .bool false := hd 15 (by kernel_rfl)
          simp only [Nat.reduceAdd, h15] at hK ⊢
          go_simp
          exact hK.out _ _ rfl (Below.refl _ _)
        case o17 =>
          intro vs W hw hd K hK
          have h16 : vs 16 = .bool false := hd 16 (by kernel_rfl)
          simp only [Nat.reduceAdd, h16] at hK ⊢
          go_simp
          exact hK.out _ _ rfl (Below.refl _ _)
        case o18 =>
          intro vs W hw hd K hK
          have h16 : vs 16 = .bool false := hd 16 (by kernel_rfl)
          have h17 : vs 17 = .pointer (some ⟨n9, 4, none⟩) := hd 17 (by kernel_rfl)
          obtain ⟨⟨-, -, -, -, x4⟩, -⟩ := rcells (HA14.out W hw)
          simp only [Nat.reduceAdd, h16, h17] at hK ⊢
          go_simp
          exact hK.out _ _ rfl (Below.refl _ _)
        case o19 =>
          intro vs W hw hd K hK
          have h16 : vs 16 = .bool false := hd 16 (by kernel_rfl)
          simp only [Nat.reduceAdd, h16] at hK ⊢
          go_simp
          exact hK.out _ _ rfl (Below.refl _ _)
        case o20 =>
          intro vs W hw hd K hK
          have h16 : vs 16 = .bool false := hd 16 (by kernel_rfl)
          have h18 : vs 18 = .slice (some ⟨rg, ro, none⟩) (an + 1) rc := hd 18 (by kernel_rfl)
          have h19 : vs 19 = .int .i64 (an : Int) := hd 19 (by kernel_rfl)
          have i0 : (0 : Int) ≤ (an : Int) := by omega
          have i1 : (an : Int) < (an : Int) + 1 := by omega
          simp only [Nat.reduceAdd, h16, h18, h19] at hK ⊢
          go_simp
          exact hK.out _ _ rfl (Below.refl _ _)
        case o21 =>
          intro vs W hw hd K hK
          have h16 : vs 16 = .bool false := hd 16 (by kernel_rfl)
          have h20 : vs 20 = .pointer (some ⟨rg, ro + an * 4, none⟩) := hd 20 (by kernel_rfl)
          obtain ⟨c0, c1, c2, c3⟩ := HL14.out W hw
          simp only [Nat.reduceAdd, h16, h20] at hK ⊢
          go_simp
          exact hK.out _ _ rfl (Below.refl _ _)
        case o22 =>
          intro vs W hw hd K hK
          have h16 : vs 16 = .bool false := hd 16 (by kernel_rfl)
          obtain ⟨⟨f0, f1, f2, f3⟩, -⟩ := fcells4 (HF14.out W hw)
          simp only [Nat.reduceAdd, h16] at hK ⊢
          go_simp
          exact hK.out _ _ rfl (Below.refl _ _)
        case o23 =>
          intro vs W hw hd K hK
          have h16 : vs 16 = .bool false := hd 16 (by kernel_rfl)
          have h21 : vs 21 = .agg #[.string ft, .string fi, .slice lqa qn lqc, .int .i64 fau] := hd 21 (by kernel_rfl)
          have h22 : vs 22 = .agg #[.string ft, .string fi, .slice qa qn qc, .int .i64 fau] := hd 22 (by kernel_rfl)
          simp only [Nat.reduceAdd, h16, h21, h22] at hK ⊢
          go_simp
          refine (cS14.out W hw).mono ?_
          rintro e W' ⟨rfl, hb'⟩
          exact hK.out _ _ rfl hb'
        case o24 =>
          intro vs W hw hd K hK
          have h16 : vs 16 = .bool false := hd 16 (by kernel_rfl)
          have h23 : vs 23 = .bool true := hd 23 (by kernel_rfl)
          simp only [Nat.reduceAdd, h16, h23] at hK ⊢
          go_simp
          exact hK.out _ _ rfl (Below.refl _ _)
        case o25 =>
          intro vs W hw hd K hK
          have h16 : vs 16 = .bool false := hd 16 (by kernel_rfl)
          have h24 : vs 24 = .bool false := hd 24 (by kernel_rfl)
          simp only [Nat.reduceAdd, h16, h24] at hK ⊢
          go_simp
          exact hK.out _ _ rfl (Below.refl _ _)
      case hfin =>
      intro vs wq hw hd
      have h25 : vs 25 = .bool false := hd 25 (by decide)
      simp only [Nat.reduceAdd, h25]
      have HBq := Lib.hid (HbB.out.trans (hw.mono HbB.out.size))
      have HWq := Lib.hid hw
      clear hd h25 hw cWh cS14 HL14 HF14 HR14 HP14 HbB
      obtain ⟨⟨-, -, -, -, x4⟩, -, -, -, -, g4⟩ := rcells (HA14.out wq HWq.out)
      have hC6 := HC6.out
      have hM6 := HM6.out
      unfold maxLen at hM6
      go_upto_region 17 with fail
      obtain ⟨W8, hW8⟩ : ∃ X, wq.setCell ⟨n9, 4, none⟩ (.slice (some ⟨rg, ro, none⟩) an rc) = X := ⟨_, rfl⟩
      have hbx := HA14.out wq HWq.out
      have ho8 : ∀ i, i ≠ n9 → W8.heap[i]? = wq.heap[i]? := fun i hi => by rw [← hW8]; exact heap_setn _ _ _ _ hi
      have hb8 : W8.heap[n9]? = some (.cells #[.int .i64 a0, .int .i64 a1, .int .i64 a2, .string la, .slice (some ⟨rg, ro, none⟩) an rc] 31 (0, 0)) := by
        rw [← hW8]
        simp [World.setCell, Array.getElem?_modify, hbx]
      have hb68 : Below w6.heap.size w6 W8 := by rw [← hW8]; exact HBq.out.setCell (p := ⟨n9, 4, none⟩) HZ7.out _
      have hP8 := (ho8 (n9 + 1) (by omega)).trans (HB14.out wq HWq.out)
      have hX8 := (ho8 w.heap.size (typ_ne (HX14.out wq HWq.out) hbx (by decide))).trans (HX14.out wq HWq.out)
      have hA8 : FL (.slice (some ⟨rg, ro, none⟩) an rc) a.fields W8 := by
        have := (HA6.out.after hb68).front
        rwa [HAN.out] at this
      have hG8 := HG6.out.after hb68
      have hb6w := HB5.out.trans (HW6.out.mono HB5.out.size)
      have hbw8 := hb6w.trans (hb68.mono hb6w.size)
      have HR9 := Lib.hid (fun (W : World) (h : Below W8.heap.size W8 W) => (h.block _ (Array.getElem?_eq_some_iff.1 hb8).1).trans hb8)
      have HP9 := Lib.hid (fun (W : World) (h : Below W8.heap.size W8 W) => (h.block _ (Array.getElem?_eq_some_iff.1 hP8).1).trans hP8)
      have HX9 := Lib.hid (fun (W : World) (h : Below W8.heap.size W8 W) => (h.block _ (Array.getElem?_eq_some_iff.1 hX8).1).trans hX8)
      have HA9 := Lib.hid (fun (W : World) (h : Below W8.heap.size W8 W) => hA8.after h)
      have HG9 := Lib.hid (fun (W : World) (h : Below W8.heap.size W8 W) => hG8.after h)
      have HB9 := Lib.hid hbw8
      clear hbx ho8 hb8 hb68 hP8 hX8 hA8 hG8 hb6w hbw8 x4 g4 hC6 hM6 HX14 HA14 HB14 HR6 HA6 HG6 HBq HWq
      rw [hW8]
      clear hW8
      go_wp2_with fail
      refine (lalive16_any W8 (HE.out W8 HB9.out)).mono ?_
      rintro e w9 ⟨rfl, hb9⟩
      have HW9 := Lib.hid hb9
      have HBx := Lib.hid (HB9.out.trans (hb9.mono HB9.out.size))
      clear hb9
      obtain ⟨⟨x0, x1, x2, x3, x4⟩, -⟩ := rcells (HR9.out w9 HW9.out)
      obtain ⟨⟨y0, y1, y2, y3, y4⟩, -, -⟩ := pair_cells (HX9.out w9 HW9.out)
      have cRA9 := Lib.hid (cRA.out w9 HBx.out _ (HA9.out w9 HW9.out))
      go_wp2_with fail
      refine cRA9.out.mono ?_
      rintro e w10 ⟨rfl, hb10⟩
      have HW10 := Lib.hid (HW9.out.trans (hb10.mono HW9.out.size))
      have HBy := Lib.hid (HBx.out.trans (hb10.mono HBx.out.size))
      clear hb10 x0 x1 x2 x3 x4 y0 y1 y2 y3 y4 cRA cRA9
      obtain ⟨⟨x0, x1, x2, x3, x4⟩, -⟩ := rcells (HP9.out w10 HW10.out)
      obtain ⟨-, ⟨y0, y1, y2, y3, y4⟩, -⟩ := pair_cells (HX9.out w10 HW10.out)
      have cRB9 := Lib.hid (cRB.out w10 HBy.out _ (HG9.out w10 HW10.out))
      go_wp2_with fail
      refine cRB9.out.mono ?_
      rintro e w11 ⟨rfl, hb11⟩
      have HBz := Lib.hid (HBy.out.trans (hb11.mono HBy.out.size))
      clear hb11 x0 x1 x2 x3 x4 y0 y1 y2 y3 y4 cRB cRB9
      go_wp2
      first | exact ⟨rfl, HBz.out⟩ | (go_ret; exact ⟨rfl, HBz.out⟩)
theorem linverse16_any (a b : Rec) (l : List Kp) (u x k : Value) (f : Fld) (uf : Value) (w : World) (hE : Env w) (hu : FL u a.fields w) (hx : FL x b.fields w) (hk : KpL k l w) (huf : QL uf f.subs w) :
    Calls Tryd.prog 5 #[PairV a u b x k, FV f uf] w fun e w' => e = .returned (.bool true) ∧ Below w.heap.size w w' := by
  by_cases hf : fairB a b l = true
  · by_cases hl : littleB f = true
    · by_cases he : errM a b l = 0
      · exact linv_ok a b l u x k f uf w hE hu hx hk huf _ _ rfl rfl hf hl he
      · exact linv_err a b l u x k f uf w hE hu hx hk huf _ _ rfl rfl hf hl he
    · exact linv_unfair a b l u x k f uf w hE hu hx hk huf _ _ rfl rfl (.inr (Bool.eq_false_iff.2 hl))
  · exact linv_unfair a b l u x k f uf w hE hu hx hk huf _ _ rfl rfl (.inl (Bool.eq_false_iff.2 hf))
end

end Go.Proofs.YtceneblmllpdnaaDoor
