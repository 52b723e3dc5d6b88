/- Merged: LT16. -/
import Derived.Test.YtceneblmllpdnaaDoorQ43
import Derived.Deep.RegionLaw
import Derived.RegionTactic
import Derived.BigRegion
namespace Go.Proofs.YtceneblmllpdnaaDoor

section
open Go.RowKit Go.PlainAid
set_option maxHeartbeats 32000000 in
set_option maxRecDepth 100000 in
theorem ltak_ok (a b : Rec) (l : List Kp) (u x k : Value) (w : World) (hE : Env w) (hu : FL u a.fields w) (hx : FL x b.fields w) (hk : KpL k l w) (hft : fairB a b stdK = true) (he : errM a b stdK = 0) :
    Calls Tryd.prog 6 #[PairV a u b x k] w fun e w' => e = .returned (.bool true) ∧ Below w.heap.size w w' := by
  rw [fairV]
  have HE := Lib.hid (fun (W : World) (h : Below w.heap.size w W) => hE.after h)
  have HU := Lib.hid (fun (W : World) (h : Below w.heap.size w W) => hu.after h)
  have HV := Lib.hid (fun (W : World) (h : Below w.heap.size w W) => hx.after h)
  obtain ⟨fb, hfb⟩ : ∃ y, fairB a b stdK = y := ⟨_, rfl⟩
  obtain rfl : fb = true := hfb.symm.trans hft
  have cF := Lib.hid (fun (W : World) (h : Below w.heap.size w W) (sv : Value) (hs : KpL sv stdK W) => lfair_any a b stdK u x sv W (hu.after h) (hx.after h) hs true hfb)
  have hfair := fairB_ok hft
  have hrr := mrg_bnd16 a b stdK hfair.1.1 hfair.2.1 (by have := merge_len a.fields b.fields stdK; have := hfair.1.2; have := hfair.2.2; omega)
  have hag := errM_again a b stdK he
  have cM := Lib.hid (fun (W : World) (h : Below w.heap.size w W) (sv : Value) (hs : KpL sv stdK W) => mrg_ok16 a b stdK u x sv W (HE.out W h) (HU.out W h) (HV.out W h) hs hfair.1.1 hfair.2.1 he)
  have cN := Lib.hid (fun (W : World) (h : Below w.heap.size w W) (sv rv : Value) (hs : KpL sv stdK W) (hr : FL rv (mergeF a.fields b.fields stdK).1 W) => mrg_ok16 { a with fields := (mergeF a.fields b.fields stdK).1 } b stdK rv x sv W (HE.out W h) hr (HV.out W h) hs hrr hfair.2.1 hag)
  simp only [merge_again] at cN
  have hmo := (merge_ok a.fields b.fields stdK fd0).1
  have hlen := merge_len a.fields b.fields stdK
  have hhas := fun (f : Fld) (hf : f ∈ b.fields) (h : howK stdK f.tag = 1) => (merge_has a.fields b.fields stdK f hf).1 h
  obtain ⟨ML, hML⟩ : ∃ y, (mergeF a.fields b.fields stdK).1 = y := ⟨_, rfl⟩
  obtain ⟨TN, hTN⟩ : ∃ y, (mergeF a.fields b.fields stdK).2 = y := ⟨_, rfl⟩
  rw [hML] at cN hmo hlen
  rw [hML, hTN] at cM
  rw [hTN] at hmo hlen
  have hlm : ML.length = a.fields.length + TN.length := by rw [hmo, List.length_append, List.length_map]
  have HHas := Lib.hid (fun (f : Fld) (hf : f ∈ b.fields) (h : howK stdK f.tag = 1) => show hasF ML f = true from (hasF_iff _ _).2 (by rw [← hML]; exact hhas f hf h))
  have HFst := Lib.hid (fun (i : Nat) (hi : i < a.fields.length) => show ML.getD i fd0 = a.fields.getD i fd0 from by rw [hmo, getD_appF, if_pos hi])
  have HLm := Lib.hid hlm
  have HLz : RowKit.Hid (ML.length ≤ 1000) := by
    unfold RowKit.Hid
    have := hfair.1.2
    have := hfair.2.2
    omega
  have HBZ : RowKit.Hid (b.fields.length ≤ 1000) := by
    unfold RowKit.Hid
    have := hfair.2.2
    omega
  have cHow := Lib.hid (fun (W : World) (sv : Value) (t : List UInt8) (hs : KpL sv stdK W) => refHow16_any stdK sv t W hs)
  have cSame := Lib.hid (fun (W : World) (f g : Fld) (v1 v2 : Value) (h1 : QL v1 f.subs W) (h2 : QL v2 g.subs W) => refSame_any f g v1 v2 W h1 h2 (sameB f g) rfl)
  unfold FV at cSame
  obtain ⟨ua, uc, ug, uo, uus, hua, -, -, hu4, hu5⟩ := hu.open16
  obtain ⟨xa, xc, xg, xo, xus, hxa, -, -, hx4, hx5⟩ := hx.open16
  obtain ⟨ka, kc, -, -, hka, -, -, -, -⟩ := hk.opened
  subst hua hxa hka
  obtain ⟨W0, hW0⟩ : ∃ W0, w.alloc (.cells #[.int .i64 a.id, .int .i64 a.ver, .int .i64 a.kind, .string (S a.lang), .slice ua a.fields.length uc, .int .i64 b.id, .int .i64 b.ver, .int .i64 b.kind, .string (S b.lang), .slice xa b.fields.length xc, .slice ka l.length kc] 33) = W0 := ⟨_, rfl⟩
  have b0 : Below w.heap.size w W0 := by rw [← hW0]; exact (Below.refl w.heap.size w).alloc (Nat.le_refl _) _
  have hs0 : W0.heap.size = w.heap.size + 1 := by rw [← hW0]; simp
  have hX : W0.heap[w.heap.size]? = some (.cells #[.int .i64 a.id, .int .i64 a.ver, .int .i64 a.kind, .string (S a.lang), .slice ua a.fields.length uc, .int .i64 b.id, .int .i64 b.ver, .int .i64 b.kind, .string (S b.lang), .slice xa b.fields.length xc, .slice ka l.length kc] 33 (0, 0)) := by rw [← hW0]; exact heap_alloc_new w _
  have HX0 := Lib.hid (fun (W : World) (h : Below W0.heap.size W0 W) => (h.block w.heap.size (Array.getElem?_eq_some_iff.1 hX).1).trans hX)
  have HW0 := Lib.hid hW0
  have HB0 := Lib.hid b0
  have HS0 := Lib.hid hs0
  have HU4 := Lib.hid hu4
  have HU5 := Lib.hid hu5
  have HX4 := Lib.hid hx4
  have HX5 := Lib.hid hx5
  have HFb := Lib.hid hfb
  simp only [fairV] at cF
  unfold RV at *
  clear hE hu hx hk hW0 b0 hX hs0 HU HV hu4 hu5 hx4 hx5 hfb hfair hrr hag hmo hlen hhas hML hTN hlm hft he
  generalize S a.lang = la at *
  generalize a.id = a0 at *
  generalize a.ver = a1 at *
  generalize a.kind = a2 at *
  generalize S b.lang = lb' at *
  generalize b.id = b0 at *
  generalize b.ver = b1 at *
  generalize b.kind = b2 at *
  generalize han : a.fields.length = an at *
  generalize hbn : b.fields.length = bn at *
  generalize l.length = kn at *
  have HAN := Lib.hid han
  have HBN := Lib.hid hbn
  clear han hbn
  go_enter Tryd.func6, Tryd.ntmps6
  go_upto_region 1 with fail
  (try rw [HW0.out])
  clear HW0
  go_wp2_with fail
  refine (refStandard16_row W0).mono ?_
  rintro e w1 ⟨sv, rfl, hs, hb1⟩
  obtain ⟨sa, sc, rfl⟩ : ∃ a c, sv = .slice a 10 c := own_form hs
  have hx1 := HX0.out w1 hb1
  obtain ⟨Wb, hWb⟩ : ∃ X, w1.setCell ⟨w.heap.size, 10, none⟩ (.slice sa 10 sc) = X := ⟨_, rfl⟩
  have hob : ∀ i, i ≠ w.heap.size → Wb.heap[i]? = w1.heap[i]? := fun i hi => by rw [← hWb]; exact heap_setn _ _ _ _ hi
  have hXb : Wb.heap[w.heap.size]? = some (.cells #[.int .i64 a0, .int .i64 a1, .int .i64 a2, .string la, .slice ua an uc, .int .i64 b0, .int .i64 b1, .int .i64 b2, .string lb', .slice xa bn xc, .slice sa 10 sc] 33 (0, 0)) := by
    rw [← hWb]
    simp [World.setCell, Array.getElem?_modify, hx1]
  have hbb : Below w.heap.size w Wb := by rw [← hWb]; exact (HB0.out.trans (hb1.mono HB0.out.size)).setCell (p := ⟨w.heap.size, 10, none⟩) (Nat.le_refl _) _
  have hks : KpL (.slice sa 10 sc) stdK Wb := KpR.kpl (B := W0.heap.size) (own_kept hs (fun b cs hb _ => hob b (by have := HS0.out; omega)))
  have HX := Lib.hid (fun (W : World) (h : Below Wb.heap.size Wb W) => (h.block w.heap.size (Array.getElem?_eq_some_iff.1 hXb).1).trans hXb)
  have HK := Lib.hid (fun (W : World) (h : Below Wb.heap.size Wb W) => hks.after h)
  have HBb := Lib.hid hbb
  have g10 := Lib.frozen_of_heap hx1 10
  obtain ⟨-, -, z10⟩ := pair_cells hx1
  clear hs hb1 hx1 hob hXb hbb hks HX0 HB0 HS0
  go_upto_region 2 with fail
  (try rw [hWb])
  clear hWb g10 z10
  obtain ⟨⟨x0, x1, x2, x3, x4⟩, ⟨x5, x6, x7, x8, x9⟩, x10⟩ := pair_cells (HX.out Wb (Below.refl _ _))
  go_wp2_with fail
  refine (cF.out Wb HBb.out _ (HK.out Wb (Below.refl _ _))).mono ?_
  rintro e w2 ⟨rfl, hb2⟩
  have HW2 := Lib.hid hb2
  have HB2 := Lib.hid (HBb.out.trans (hb2.mono HBb.out.size))
  clear hb2 cF x0 x1 x2 x3 x4 x5 x6 x7 x8 x9 x10
  obtain ⟨⟨x0, x1, x2, x3, x4⟩, ⟨x5, x6, x7, x8, x9⟩, x10⟩ := pair_cells (HX.out w2 HW2.out)
  go_wp2_with fail
  refine (cM.out w2 HB2.out _ (HK.out w2 HW2.out)).mono ?_
  rintro e w3 ⟨mv, fv, tv, rfl, hm, hf, ht, hb3⟩
  obtain ⟨ma, mc, mg, mo, mus, rfl, hmc, hmm, hm4, hm5⟩ := hm.fl.open16
  obtain ⟨fa, fc, rfl⟩ := hf.form
  obtain ⟨ta, tc, rfl⟩ := ht.form
  have hml := hm.fl
  rw [HBN.out] at ⊢
  rw [NtoI_len]
  have hlm := HLm.out
  have hlz := HLz.out
  obtain ⟨tn, htn⟩ : ∃ y, TN.length = y := ⟨_, rfl⟩
  obtain ⟨mn, hmn⟩ : ∃ y, ML.length = y := ⟨_, rfl⟩
  rw [htn] at hlm ⊢
  rw [hmn] at hlm hlz hmc hm4 hm5 hml ⊢
  have HMN := Lib.hid hmn
  have HLM := Lib.hid hlm
  have HLZ := Lib.hid hlz
  have HM3 := Lib.hid hml
  have HM4 := Lib.hid hm4
  have HM5 := Lib.hid hm5
  have HW3 := Lib.hid (HW2.out.trans (hb3.mono HW2.out.size))
  have HB3 := Lib.hid (HB2.out.trans (hb3.mono HB2.out.size))
  clear hb3 hm hf ht hml cM htn hmn hlm hlz hmc hmm hm4 hm5 HLm HLz x0 x1 x2 x3 x4 x5 x6 x7 x8 x9 x10
  obtain ⟨ca, hca⟩ : ∃ y, (#[.int .i64 a0, .int .i64 a1, .int .i64 a2, .string la, .slice ma mn mc] : Array Value) = y := ⟨_, rfl⟩
  obtain ⟨cb, hcb⟩ : ∃ y, (#[.int .i64 a0, .int .i64 b0, .int .i64 b1, .int .i64 b2, .string lb', .slice fa bn fc, .slice ta tn tc] : Array Value) = y := ⟨_, rfl⟩
  obtain ⟨wA, hwA⟩ : ∃ X, (w3.alloc (.cells #[.int .i64 0, .int .i64 0, .int .i64 0, .string ⟨#[]⟩, .slice none 0 0] 31)).alloc (.cells #[.int .i64 0, .int .i64 0, .int .i64 0, .int .i64 0, .string ⟨#[]⟩, .slice none 0 0, .slice none 0 0] 36) = X := ⟨_, rfl⟩
  have hbx : box2W w3 = wA := hwA
  have h1 := box2_one w3
  have h2 := box2_two w3 ca
  rw [hbx] at h1 h2
  have HZ1 := Lib.hid h1
  have HZ2 := Lib.hid h2
  clear h1 h2
  have h1 := box2_a w3 ca cb
  have h2 := box2_b w3 ca cb
  have h3 := box2_below w3 ca cb
  unfold box2F at h1 h2 h3
  rw [hbx] at h1 h2 h3
  clear hbx
  go_upto_region 5 with (first | (refine wpList_store_row rfl 31 (.tmp 3) (.tmp 28) rfl w3.heap.size ca rfl (by rw [← hca]; rfl) 31 _ (by (try rw [hwA]); exact HZ1.out) (by rw [← hca]; kernel_rfl) (by rw [← hca]; rfl) (by rw [← hca]; simp [Value.oneCell']) ?_) | (refine wpList_store_row rfl 36 (.tmp 4) (.tmp 29) rfl (w3.heap.size + 1) cb rfl (by rw [← hcb]; rfl) 36 _ (by (try rw [hwA]); exact HZ2.out) (by rw [← hcb]; kernel_rfl) (by rw [← hcb]; rfl) (by rw [← hcb]; simp [Value.oneCell']) ?_))
  (try rw [hwA])
  obtain ⟨w4, hW7⟩ : ∃ X, (wA.setRow w3.heap.size ca).setRow (w3.heap.size + 1) cb = X := ⟨_, rfl⟩
  rw [hW7] at h1 h2 h3
  rw [← hca] at h1
  rw [← hcb] at h2
  (try rw [hW7])
  have HaN := Lib.hid (Nat.le_refl w3.heap.size)
  obtain ⟨n5, hnA⟩ : ∃ y, w3.heap.size = y := ⟨_, rfl⟩
  rw [hnA] at h1 h2 HaN
  (try rw [hnA])
  have HaE := Lib.hid hnA
  have HaA := Lib.hid h1
  have HaP := Lib.hid h2
  have HaB := Lib.hid h3
  clear h1 h2 h3 hW7 hwA HZ1 HZ2 hca hcb hnA
  have HW4 := Lib.hid (HW3.out.trans (HaB.out.mono HW3.out.size))
  have HB4 := Lib.hid (HB3.out.trans (HaB.out.mono HB3.out.size))
  have HM6 := Lib.hid (fun (W : World) (h : Below w4.heap.size w4 W) => HM5.out W (HaB.out.trans (h.mono HaB.out.size)))
  have HM7 := Lib.hid (fun (W : World) (h : Below w4.heap.size w4 W) => HM3.out.after (HaB.out.trans (h.mono HaB.out.size)))
  have HR4 := Lib.hid (Below.refl w4.heap.size w4)
  have HA4 := Lib.hid (fun (W : World) (h : Below w4.heap.size w4 W) => (h.block _ (Array.getElem?_eq_some_iff.1 HaA.out).1).trans HaA.out)
  have HP4 := Lib.hid (fun (W : World) (h : Below w4.heap.size w4 W) => (h.block _ (Array.getElem?_eq_some_iff.1 HaP.out).1).trans HaP.out)
  have HX4w := Lib.hid (fun (W : World) (h : Below w4.heap.size w4 W) => HX.out W (HW4.out.trans (h.mono HW4.out.size)))
  have HK4 := Lib.hid (fun (W : World) (h : Below w4.heap.size w4 W) => HK.out W (HW4.out.trans (h.mono HW4.out.size)))
  have HU6 := Lib.hid (fun (W : World) (h : Below w4.heap.size w4 W) => HU5.out W (HB4.out.trans (h.mono HB4.out.size)))
  have HX6 := Lib.hid (fun (W : World) (h : Below w4.heap.size w4 W) => HX5.out W (HB4.out.trans (h.mono HB4.out.size)))
  clear HM5 HM3 HW3 HB3 HaB HaN HaE HaA HaP HW4 HX HK HU5 HX5 HW2 HB2
  go_wp2
  go_loopw [6] (fun s6 wr => ∃ k : Nat, s6 = .int .i64 (k : Int) ∧ k ≤ an ∧ RowKit.Hid (Below w4.heap.size w4 wr)) (fun s6 _ => an - (intOf s6).toNat)
  case atStart => exact ⟨0, rfl, Nat.zero_le _, HR4.out⟩
  case round =>
    obtain ⟨k, rfl, hk, HB⟩ := hrel
    clear HR4
    have HAr := Lib.hid (fun (W : World) (h : Below wr.heap.size wr W) => HA4.out W (HB.out.trans (h.mono HB.out.size)))
    have HXr := Lib.hid (fun (W : World) (h : Below wr.heap.size wr W) => HX4w.out W (HB.out.trans (h.mono HB.out.size)))
    have hlz := HLZ.out
    have hle : an ≤ mn := by have := HLM.out; omega
    have i1 : (0 : Int) ≤ (k : Int) := by omega
    obtain ⟨⟨-, -, -, -, x4⟩, -, -⟩ := pair_cells (HXr.out wr (Below.refl _ _))
    by_cases hkn : k < an
    · have i2 : (k : Int) < (an : Int) := by omega
      have i3 : (k : Int) < (mn : Int) := by omega
      have hkm : k < mn := by omega
      have e1 := HU4.out (by omega)
      subst e1
      have e1 := HM4.out (by omega)
      subst e1
      obtain ⟨g, hg⟩ : ∃ y, a.fields.getD k fd0 = y := ⟨_, rfl⟩
      have hmg := (HFst.out k hkn).trans hg
      obtain ⟨ga, gc, hgu, -, -⟩ := (HM6.out wr HB.out k hkm).2.length
      obtain ⟨ha, hc, hhu, -, -⟩ := (HU6.out wr HB.out k hkn).2.length
      rw [hmg] at hgu
      rw [hg] at hhu
      have HMr := Lib.hid (fun (W : World) (h : Below wr.heap.size wr W) => (HM6.out W (HB.out.trans (h.mono HB.out.size)) k hkm).1)
      have HGr := Lib.hid (fun (W : World) (h : Below wr.heap.size wr W) => (HU6.out W (HB.out.trans (h.mono HB.out.size)) k hkn).1)
      have cSm := Lib.hid (fun (W : World) (h : Below wr.heap.size wr W) => cSame.out W g g (mus k) (uus k) (by have := (HM6.out W (HB.out.trans (h.mono HB.out.size)) k hkm).2; rwa [hmg] at this) (by have := (HU6.out W (HB.out.trans (h.mono HB.out.size)) k hkn).2; rwa [hg] at this))
      rw [show sameB g g = true by simp [sameB]] at cSm
      rw [hmg, hgu] at HMr
      rw [hg, hhu] at HGr
      rw [hgu, hhu] at cSm
      generalize g.subs.length = gn at *
      generalize S g.tag = gt at *
      generalize S g.ind = gi at *
      generalize g.auth = gau at *
      clear hg hmg hgu hhu
      go_upto_region 10 with fail
      clear x4
      apply wp_region_inv (V := [.eq (.int .i64 (k : Int)), .eq (.pointer (some ⟨n5, 4, none⟩)), .eq (.slice (some ⟨mg, mo, none⟩) mn mc), .eq (.int .i64 (mn : Int)), .eq (.bool false), .eq (.bool false), .eq (.pointer (some ⟨n5, 4, none⟩)), .eq (.slice (some ⟨mg, mo, none⟩) mn mc), .eq (.int .i64 (k : Int)), .eq (.pointer (some ⟨mg, mo + k * 4, none⟩)), .eq (.agg #[.string gt, .string gi, .slice ga gn gc, .int .i64 gau]), .eq (.pointer (some ⟨w.heap.size, 0, none⟩)), .eq (.pointer (some ⟨w.heap.size, 4, none⟩)), .eq (.slice (some ⟨ug, uo, none⟩) an uc), .eq (.int .i64 (k : Int)), .eq (.pointer (some ⟨ug, uo + k * 4, none⟩)), .eq (.agg #[.string gt, .string gi, .slice ha gn hc, .int .i64 gau]), .eq (.bool true), .eq (.bool false), .eq (.bool false)])
      case hm => kernel_rfl
      case hd => kernel_rfl
      case hb => kernel_rfl
      case hA =>
        intro vs
        simp only [puts, Act.put, List.setIfInBounds_toArray, List.set_cons_zero, List.set_cons_succ]
        exact rfl
      case hob =>
        refine Obs.cons _ _ _ _ _ _ ?o0 (Obs.cons _ _ _ _ _ _ ?o1 (Obs.cons _ _ _ _ _ _ ?o2 (Obs.cons _ _ _ _ _ _ ?o3 (Obs.cons _ _ _ _ _ _ ?o4 (Obs.cons _ _ _ _ _ _ ?o5 (Obs.cons _ _ _ _ _ _ ?o6 (Obs.cons _ _ _ _ _ _ ?o7 (Obs.cons _ _ _ _ _ _ ?o8 (Obs.cons _ _ _ _ _ _ ?o9 (Obs.cons _ _ _ _ _ _ ?o10 (Obs.cons _ _ _ _ _ _ ?o11 (Obs.cons _ _ _ _ _ _ ?o12 (Obs.cons _ _ _ _ _ _ ?o13 (Obs.cons _ _ _ _ _ _ ?o14 (Obs.cons _ _ _ _ _ _ ?o15 (Obs.cons _ _ _ _ _ _ ?o16 (Obs.cons _ _ _ _ _ _ ?o17 (Obs.cons _ _ _ _ _ _ ?o18 (Obs.cons _ _ _ _ _ _ ?o19 (Obs.nil _ _ _ _ _ _))))))))))))))))))))
        case o0 =>
          intro vs W hw hd K hK
          go_simp
          exact hK.out _ _ rfl (Below.refl _ _)
        case o1 =>
          intro vs W hw hd K hK
          go_simp
          exact hK.out _ _ rfl (Below.refl _ _)
        case o2 =>
          intro vs W hw hd K hK
          have h1 : vs 1 = .pointer (some ⟨n5, 4, none⟩) := hd 1 (by kernel_rfl)
          obtain ⟨⟨-, -, -, -, m4⟩, -⟩ := rcells (HAr.out W hw)
          simp only [Nat.reduceAdd, h1] at hK ⊢
          go_simp
          exact hK.out _ _ rfl (Below.refl _ _)
        case o3 =>
          intro vs W hw hd K hK
          have h2 : vs 2 = .slice (some ⟨mg, mo, none⟩) mn mc := hd 2 (by kernel_rfl)
          simp only [Nat.reduceAdd, h2] at hK ⊢
          go_simp
          exact hK.out _ _ rfl (Below.refl _ _)
        case o4 =>
          intro vs W hw hd K hK
          have h0 : vs 0 = .int .i64 (k : Int) := hd 0 (by kernel_rfl)
          have h3 : vs 3 = .int .i64 (mn : Int) := hd 3 (by kernel_rfl)
          have i4 : ¬ mn ≤ k := by omega
          simp only [Nat.reduceAdd, h0, h3] at hK ⊢
          go_simp
          exact hK.out _ _ rfl (Below.refl _ _)
        case o5 =>
          intro vs W hw hd K hK
          have h4 : vs 4 = .bool false := hd 4 (by kernel_rfl)
          simp only [Nat.reduceAdd, h4] at hK ⊢
          go_simp
          exact hK.out _ _ rfl (Below.refl _ _)
        case o6 =>
          intro vs W hw hd K hK
          have h5 : vs 5 = .bool false := hd 5 (by kernel_rfl)
          simp only [Nat.reduceAdd, h5] at hK ⊢
          go_simp
          exact hK.out _ _ rfl (Below.refl _ _)
        case o7 =>
          intro vs W hw hd K hK
          have h5 : vs 5 = .bool false := hd 5 (by kernel_rfl)
          have h6 : vs 6 = .pointer (some ⟨n5, 4, none⟩) := hd 6 (by kernel_rfl)
          obtain ⟨⟨-, -, -, -, m4⟩, -⟩ := rcells (HAr.out W hw)
          simp only [Nat.reduceAdd, h5, h6] at hK ⊢
          go_simp
          exact hK.out _ _ rfl (Below.refl _ _)
        case o8 =>
          intro vs W hw hd K hK
          have h5 : vs 5 = .bool false := hd 5 (by kernel_rfl)
          simp only [Nat.reduceAdd, h5] at hK ⊢
          go_simp
          exact hK.out _ _ rfl (Below.refl _ _)
        case o9 =>
          intro vs W hw hd K hK
          have h5 : vs 5 = .bool false := hd 5 (by kernel_rfl)
          have h7 : vs 7 = .slice (some ⟨mg, mo, none⟩) mn mc := hd 7 (by kernel_rfl)
          have h8 : vs 8 = .int .i64 (k : Int) := hd 8 (by kernel_rfl)
          simp only [Nat.reduceAdd, h5, h7, h8] at hK ⊢
          go_simp
          exact hK.out _ _ rfl (Below.refl _ _)
        case o10 =>
          intro vs W hw hd K hK
          have h5 : vs 5 = .bool false := hd 5 (by kernel_rfl)
          have h9 : vs 9 = .pointer (some ⟨mg, mo + k * 4, none⟩) := hd 9 (by kernel_rfl)
          obtain ⟨c0, c1, c2, c3⟩ := HMr.out W hw
          simp only [Nat.reduceAdd, h5, h9] at hK ⊢
          go_simp
          exact hK.out _ _ rfl (Below.refl _ _)
        case o11 =>
          intro vs W hw hd K hK
          have h5 : vs 5 = .bool false := hd 5 (by kernel_rfl)
          simp only [Nat.reduceAdd, h5] at hK ⊢
          go_simp
          exact hK.out _ _ rfl (Below.refl _ _)
        case o12 =>
          intro vs W hw hd K hK
          have h5 : vs 5 = .bool false := hd 5 (by kernel_rfl)
          have h11 : vs 11 = .pointer (some ⟨w.heap.size, 0, none⟩) := hd 11 (by kernel_rfl)
          simp only [Nat.reduceAdd, h5, h11] at hK ⊢
          go_simp
          exact hK.out _ _ rfl (Below.refl _ _)
        case o13 =>
          intro vs W hw hd K hK
          have h5 : vs 5 = .bool false := hd 5 (by kernel_rfl)
          have h12 : vs 12 = .pointer (some ⟨w.heap.size, 4, none⟩) := hd 12 (by kernel_rfl)
          obtain ⟨⟨x0, x1, x2, x3, x4⟩, -, -⟩ := pair_cells (HXr.out W hw)
          simp only [Nat.reduceAdd, h5, h12] at hK ⊢
          go_simp
          exact hK.out _ _ rfl (Below.refl _ _)
        case o14 =>
          intro vs W hw hd K hK
          have h5 : vs 5 = .bool false := hd 5 (by kernel_rfl)
          simp only [Nat.reduceAdd, h5] at hK ⊢
          go_simp
          exact hK.out _ _ rfl (Below.refl _ _)
        case o15 =>
          intro vs W hw hd K hK
          have h5 : vs 5 = .bool false := hd 5 (by kernel_rfl)
          have h13 : vs 13 = .slice (some ⟨ug, uo, none⟩) an uc := hd 13 (by kernel_rfl)
          have h14 : vs 14 = .int .i64 (k : Int) := hd 14 (by kernel_rfl)
          simp only [Nat.reduceAdd, h5, h13, h14] at hK ⊢
          go_simp
          exact hK.out _ _ rfl (Below.refl _ _)
        case o16 =>
          intro vs W hw hd K hK
          have h5 : vs 5 = .bool false := hd 5 (by kernel_rfl)
          have h15 : vs 15 = .pointer (some ⟨ug, uo + k * 4, none⟩) := hd 15 (by kernel_rfl)
          obtain ⟨c0, c1, c2, c3⟩ := HGr.out W hw
          simp only [Nat.reduceAdd, h5, h15] at hK ⊢
          go_simp
          exact hK.out _ _ rfl (Below.refl _ _)
        case o17 =>
          intro vs W hw hd K hK
          have h5 : vs 5 = .bool false := hd 5 (by kernel_rfl)
          have h10 : vs 10 = .agg #[.string gt, .string gi, .slice ga gn gc, .int .i64 gau] := hd 10 (by kernel_rfl)
          have h16 : vs 16 = .agg #[.string gt, .string gi, .slice ha gn hc, .int .i64 gau] := hd 16 (by kernel_rfl)
          simp only [Nat.reduceAdd, h5, h10, h16] at hK ⊢
          go_simp
          refine (cSm.out W hw).mono ?_
          rintro e W' ⟨rfl, hb'⟩
          exact hK.out _ _ rfl hb'
        case o18 =>
          intro vs W hw hd K hK
          have h5 : vs 5 = .bool false := hd 5 (by kernel_rfl)
          have h17 : vs 17 = .bool true := hd 17 (by kernel_rfl)
          simp only [Nat.reduceAdd, h5, h17] at hK ⊢
          go_simp
          exact hK.out _ _ rfl (Below.refl _ _)
        case o19 =>
          intro vs W hw hd K hK
          have h5 : vs 5 = .bool false := hd 5 (by kernel_rfl)
          have h18 : vs 18 = .bool false := hd 18 (by kernel_rfl)
          simp only [Nat.reduceAdd, h5, h18] at hK ⊢
          go_simp
          exact hK.out _ _ rfl (Below.refl _ _)
      case hfin =>
        intro vs wq hw hd
        have h19 : vs 19 = .bool false := hd 19 (by decide)
        simp only [Nat.reduceAdd, h19]
        have HBw := Lib.hid (HB.out.trans (hw.mono HB.out.size))
        clear hd h19 hw HMr HGr cSm HXr HAr
        go_wp2
        go_roundw
        case rel => exact ⟨k + 1, by go_num, by omega, HBw.out⟩
        case measure => simp [intOf]; omega
    · obtain rfl : an = k := by omega
      have HB1 := Lib.hid HB.out
      clear HAr HXr HB hkn hk i1
      go_wp2
      go_loopw [7] (fun s7 wr => ∃ k : Nat, s7 = .int .i64 (k : Int) ∧ k ≤ bn ∧ RowKit.Hid (Below w4.heap.size w4 wr)) (fun s7 _ => bn - (intOf s7).toNat)
      case atStart => exact ⟨0, rfl, Nat.zero_le _, HB1.out⟩
      case round =>
        obtain ⟨k, rfl, hk, HB⟩ := hrel
        clear HB1
        have i1 : (0 : Int) ≤ (k : Int) := by omega
        obtain ⟨-, ⟨-, -, -, -, x9⟩, -⟩ := pair_cells (HX4w.out wr HB.out)
        have hbz := HBZ.out
        by_cases hkn : k < bn
        · have i2 : (k : Int) < (bn : Int) := by omega
          have e1 := HX4.out (by omega)
          subst e1
          obtain ⟨g, hg⟩ : ∃ y, b.fields.getD k fd0 = y := ⟨_, rfl⟩
          have hmem : g ∈ b.fields := by
            have hlt : k < b.fields.length := by rw [HBN.out]; exact hkn
            rw [← hg, List.getD_eq_getElem?_getD, List.getElem?_eq_getElem hlt]
            exact List.getElem_mem _
          have HMem := Lib.hid (HHas.out g hmem)
          obtain ⟨ga, gc, hgu, -, -⟩ := (HX6.out wr HB.out k hkn).2.length
          have hc := HX6.out wr HB.out k hkn
          have HQg := Lib.hid (fun (W : World) (h : Below wr.heap.size wr W) => (HX6.out W (HB.out.trans (h.mono HB.out.size)) k hkn).2)
          rw [hg] at hgu hc HQg
          rw [hgu] at hc HQg
          obtain ⟨⟨c0, c1, c2, c3⟩, -⟩ := hc
          have cH := Lib.hid (fun (W : World) (h : Below w4.heap.size w4 W) => cHow.out W _ g.tag (HK4.out W h))
          obtain ⟨hv, hhv⟩ : ∃ y, howK stdK g.tag = y := ⟨_, rfl⟩
          rw [hhv] at cH HMem
          have cSm := Lib.hid (fun (W : World) (h : Below wr.heap.size wr W) (y : Fld) (yv : Value) (hy : QL yv y.subs W) => cSame.out W y g yv (.slice ga g.subs.length gc) hy (HQg.out W h))
          have HG := Lib.hid (show g = g from rfl)
          clear hmem hg hgu hhv HQg
          generalize hgn : g.subs.length = gn at *
          generalize hgt : S g.tag = gt at *
          generalize hgi : S g.ind = gi at *
          generalize hga : g.auth = gau at *
          clear hgn hgt hgi hga
          obtain ⟨W1, hW1⟩ : ∃ X, wr.alloc (.cells #[.string gt, .string gi, .slice ga gn gc, .int .i64 gau] 45) = X := ⟨_, rfl⟩
          have hF1 : W1.heap[wr.heap.size]? = some (.cells #[.string gt, .string gi, .slice ga gn gc, .int .i64 gau] 45 (0, 0)) := by rw [← hW1]; exact heap_alloc_new wr _
          have hb1 : Below wr.heap.size wr W1 := by rw [← hW1]; exact (Below.refl wr.heap.size wr).alloc (Nat.le_refl _) _
          have HF1 := Lib.hid (fun (W : World) (h : Below W1.heap.size W1 W) => (h.block _ (Array.getElem?_eq_some_iff.1 hF1).1).trans hF1)
          have HB5 := Lib.hid (HB.out.trans (hb1.mono HB.out.size))
          have cSn := Lib.hid (fun (W : World) (h : Below W1.heap.size W1 W) => cSm.out W (hb1.trans (h.mono hb1.size)))
          clear hF1 hb1 cSm
          obtain ⟨nf, hnf⟩ : ∃ y, wr.heap.size = y := ⟨_, rfl⟩
          rw [hnf] at HF1
          go_upto_region 16 with fail
          (try rw [hW1])
          (try rw [hnf])
          clear hW1 hnf x9 c0 c1 c2 c3 HB
          obtain ⟨-, -, x10⟩ := pair_cells (HX4w.out W1 HB5.out)
          obtain ⟨⟨f0, f1, f2, f3⟩, -⟩ := fcells4 (HF1.out W1 (Below.refl _ _))
          go_wp2_with fail
          refine (cH.out W1 HB5.out).mono ?_
          rintro e w5 ⟨rfl, hb5⟩
          have HW5 := Lib.hid hb5
          have HB6 := Lib.hid (HB5.out.trans (hb5.mono HB5.out.size))
          clear hb5 x10 f0 f1 f2 f3 cH
          by_cases hv1 : hv = 1
          · subst hv1
            have HMem2 := Lib.hid (HMem.out rfl)
            clear HMem
            go_wp2
            go_loopw [9, 10] (fun s9 s10 wr => ∃ (j : Nat) (fo : Bool), s9 = .bool fo ∧ s10 = .int .i64 (j : Int) ∧ j ≤ mn ∧ RowKit.Hid (hasF (ML.take j) g = fo) ∧ RowKit.Hid (Below W1.heap.size W1 wr)) (fun _ s10 _ => mn - (intOf s10).toNat)
            case atStart => exact ⟨0, false, rfl, rfl, Nat.zero_le _, rfl, HW5.out⟩
            case round =>
              obtain ⟨j, fo, rfl, rfl, hj, HFo, HBj⟩ := hrel
              clear HW5 HB6
              have j1 : (0 : Int) ≤ (j : Int) := by omega
              have HB7 := Lib.hid (HB5.out.trans (HBj.out.mono HB5.out.size))
              obtain ⟨⟨-, -, -, -, m4⟩, -⟩ := rcells (HA4.out wr HB7.out)
              by_cases hjn : j < mn
              · have j2 : (j : Int) < (mn : Int) := by omega
                have e1 := HM4.out (by omega)
                subst e1
                obtain ⟨y, hy⟩ : ∃ z, ML.getD j fd0 = z := ⟨_, rfl⟩
                have hnx := hasF_take ML g j (by rw [HMN.out]; exact hjn)
                rw [hy, HFo.out] at hnx
                have HNx := Lib.hid hnx
                obtain ⟨ya, yc, hyu, -, -⟩ := (HM6.out wr HB7.out j hjn).2.length
                have HMr := Lib.hid (fun (W : World) (h : Below wr.heap.size wr W) => (HM6.out W (HB7.out.trans (h.mono HB7.out.size)) j hjn).1)
                have cSm := Lib.hid (fun (W : World) (h : Below wr.heap.size wr W) => cSn.out W (HBj.out.trans (h.mono HBj.out.size)) y (mus j) (by have := (HM6.out W (HB7.out.trans (h.mono HB7.out.size)) j hjn).2; rwa [hy] at this))
                have HAr := Lib.hid (fun (W : World) (h : Below wr.heap.size wr W) => HA4.out W (HB7.out.trans (h.mono HB7.out.size)))
                have HFr := Lib.hid (fun (W : World) (h : Below wr.heap.size wr W) => HF1.out W (HBj.out.trans (h.mono HBj.out.size)))
                rw [hy] at hyu
                rw [hy, hyu] at HMr
                rw [hyu] at cSm
                obtain ⟨sm, hsm⟩ : ∃ z, sameB y g = z := ⟨_, rfl⟩
                rw [hsm] at cSm HNx
                generalize y.subs.length = yn at *
                generalize S y.tag = yt at *
                generalize S y.ind = yi at *
                generalize y.auth = yau at *
                clear hy hnx hyu hsm HFo
                go_upto_region 21 with fail
                clear m4
                cases fo with
                | true =>
                  apply wp_region_end (R := fun u v => Below u.heap.size u v) (V := [SPR.eq _ (.bool true), SPR.eq _ (.bool true), SPR.eq _ (undef), SPR.eq _ (undef), SPR.eq _ (undef), SPR.eq _ (undef), SPR.eq _ (undef), SPR.eq _ (undef), SPR.eq _ (undef), SPR.eq _ (.bool true)]) (n := 10) (f := 2)
                  case htrans => exact fun _ _ _ h k => h.trans (k.mono h.size)
                  case hdrew => exact (Below.refl _ _).drew
                  case hm => kernel_rfl
                  case hd => kernel_rfl
                  case hb => kernel_rfl
                  case hA =>
                    intro vs
                    simp only [List.take_succ_cons, List.take_zero, puts, Act.put, List.setIfInBounds_toArray, List.set_cons_zero, List.set_cons_succ]
                    exact rfl
                  case hlast => kernel_rfl
                  case hol => exact rfl
                  case hob =>
                    refine ObsR.cons _ _ _ _ _ _ _ ?o0 (ObsR.cons _ _ _ _ _ _ _ ?o1 (ObsR.cons _ _ _ _ _ _ _ ?o2 (ObsR.cons _ _ _ _ _ _ _ ?o3 (ObsR.cons _ _ _ _ _ _ _ ?o4 (ObsR.cons _ _ _ _ _ _ _ ?o5 (ObsR.cons _ _ _ _ _ _ _ ?o6 (ObsR.cons _ _ _ _ _ _ _ ?o7 (ObsR.cons _ _ _ _ _ _ _ ?o8 (ObsR.cons _ _ _ _ _ _ _ ?o9 (ObsR.nil _ _ _ _ _ _ _))))))))))
                    case o0 =>
                      intro vs W hw hd K hK
                      go_simp
                      exact hK.out _ _ rfl (Below.refl _ _)
                    case o1 =>
                      intro vs W hw hd K hK
                      have h0 : vs 0 = .bool true := hd 0 (by kernel_rfl)
                      simp only [Nat.reduceAdd, h0] at hK ⊢
                      go_simp
                      exact hK.out _ _ rfl (Below.refl _ _)
                    case o2 =>
                      intro vs W hw hd K hK
                      have h1 : vs 1 = .bool true := hd 1 (by kernel_rfl)
                      simp only [Nat.reduceAdd, h1] at hK ⊢
                      go_simp
                      exact hK.out _ _ rfl (Below.refl _ _)
                    case o3 =>
                      intro vs W hw hd K hK
                      have h1 : vs 1 = .bool true := hd 1 (by kernel_rfl)
                      simp only [Nat.reduceAdd, h1] at hK ⊢
                      go_simp
                      exact hK.out _ _ rfl (Below.refl _ _)
                    case o4 =>
                      intro vs W hw hd K hK
                      have h1 : vs 1 = .bool true := hd 1 (by kernel_rfl)
                      simp only [Nat.reduceAdd, h1] at hK ⊢
                      go_simp
                      exact hK.out _ _ rfl (Below.refl _ _)
                    case o5 =>
                      intro vs W hw hd K hK
                      have h1 : vs 1 = .bool true := hd 1 (by kernel_rfl)
                      simp only [Nat.reduceAdd, h1] at hK ⊢
                      go_simp
                      exact hK.out _ _ rfl (Below.refl _ _)
                    case o6 =>
                      intro vs W hw hd K hK
                      have h1 : vs 1 = .bool true := hd 1 (by kernel_rfl)
                      simp only [Nat.reduceAdd, h1] at hK ⊢
                      go_simp
                      exact hK.out _ _ rfl (Below.refl _ _)
                    case o7 =>
                      intro vs W hw hd K hK
                      have h1 : vs 1 = .bool true := hd 1 (by kernel_rfl)
                      simp only [Nat.reduceAdd, h1] at hK ⊢
                      go_simp
                      exact hK.out _ _ rfl (Below.refl _ _)
                    case o8 =>
                      intro vs W hw hd K hK
                      have h1 : vs 1 = .bool true := hd 1 (by kernel_rfl)
                      simp only [Nat.reduceAdd, h1] at hK ⊢
                      go_simp
                      exact hK.out _ _ rfl (Below.refl _ _)
                    case o9 =>
                      intro vs W hw hd K hK
                      have h1 : vs 1 = .bool true := hd 1 (by kernel_rfl)
                      have h8 : vs 8 = undef := hd 8 (by kernel_rfl)
                      simp only [Nat.reduceAdd, h1, h8] at hK ⊢
                      go_simp
                      exact hK.out _ _ rfl (Below.refl _ _)
                  case hfin =>
                    intro vs wq hw hd
                    have h9 : vs 9 = .bool true := hd 9 (by decide)
                    simp only [Nat.reduceAdd, h9]
                    have HBw := Lib.hid (HBj.out.trans (hw.mono HBj.out.size))
                    have HNy : RowKit.Hid (hasF (ML.take (j + 1)) g = true) := HNx.out.trans (Bool.true_or _)
                    clear hd h9 hw HMr cSm HAr HFr HNx
                    go_simp
                    go_wp2
                    go_roundw
                    case rel => exact ⟨j + 1, true, rfl, by go_num, by omega, HNy.out, HBw.out⟩
                    case measure => simp [intOf]; omega
                | false =>
                  apply wp_region_end (R := fun u v => Below u.heap.size u v) (V := [SPR.eq _ (.bool false), SPR.eq _ (.bool false), SPR.eq _ (.pointer (some ⟨n5, 4, none⟩)), SPR.eq _ (.slice (some ⟨mg, mo, none⟩) mn mc), SPR.eq _ (.int .i64 (j : Int)), SPR.eq _ (.pointer (some ⟨mg, mo + j * 4, none⟩)), SPR.eq _ (.agg #[.string yt, .string yi, .slice ya yn yc, .int .i64 yau]), SPR.eq _ (.agg #[.string gt, .string gi, .slice ga gn gc, .int .i64 gau]), SPR.eq _ (.bool sm), SPR.eq _ (.bool sm)]) (n := 10) (f := 2)
                  case htrans => exact fun _ _ _ h k => h.trans (k.mono h.size)
                  case hdrew => exact (Below.refl _ _).drew
                  case hm => kernel_rfl
                  case hd => kernel_rfl
                  case hb => kernel_rfl
                  case hA =>
                    intro vs
                    simp only [List.take_succ_cons, List.take_zero, puts, Act.put, List.setIfInBounds_toArray, List.set_cons_zero, List.set_cons_succ]
                    exact rfl
                  case hlast => kernel_rfl
                  case hol => exact rfl
                  case hob =>
                    refine ObsR.cons _ _ _ _ _ _ _ ?o0 (ObsR.cons _ _ _ _ _ _ _ ?o1 (ObsR.cons _ _ _ _ _ _ _ ?o2 (ObsR.cons _ _ _ _ _ _ _ ?o3 (ObsR.cons _ _ _ _ _ _ _ ?o4 (ObsR.cons _ _ _ _ _ _ _ ?o5 (ObsR.cons _ _ _ _ _ _ _ ?o6 (ObsR.cons _ _ _ _ _ _ _ ?o7 (ObsR.cons _ _ _ _ _ _ _ ?o8 (ObsR.cons _ _ _ _ _ _ _ ?o9 (ObsR.nil _ _ _ _ _ _ _))))))))))
                    case o0 =>
                      intro vs W hw hd K hK
                      go_simp
                      exact hK.out _ _ rfl (Below.refl _ _)
                    case o1 =>
                      intro vs W hw hd K hK
                      have h0 : vs 0 = .bool false := hd 0 (by kernel_rfl)
                      simp only [Nat.reduceAdd, h0] at hK ⊢
                      go_simp
                      exact hK.out _ _ rfl (Below.refl _ _)
                    case o2 =>
                      intro vs W hw hd K hK
                      have h1 : vs 1 = .bool false := hd 1 (by kernel_rfl)
                      simp only [Nat.reduceAdd, h1] at hK ⊢
                      go_simp
                      exact hK.out _ _ rfl (Below.refl _ _)
                    case o3 =>
                      intro vs W hw hd K hK
                      have h1 : vs 1 = .bool false := hd 1 (by kernel_rfl)
                      have h2 : vs 2 = .pointer (some ⟨n5, 4, none⟩) := hd 2 (by kernel_rfl)
                      obtain ⟨⟨-, -, -, -, m4⟩, -⟩ := rcells (HAr.out W hw)
                      simp only [Nat.reduceAdd, h1, h2] at hK ⊢
                      go_simp
                      exact hK.out _ _ rfl (Below.refl _ _)
                    case o4 =>
                      intro vs W hw hd K hK
                      have h1 : vs 1 = .bool false := hd 1 (by kernel_rfl)
                      simp only [Nat.reduceAdd, h1] at hK ⊢
                      go_simp
                      exact hK.out _ _ rfl (Below.refl _ _)
                    case o5 =>
                      intro vs W hw hd K hK
                      have h1 : vs 1 = .bool false := hd 1 (by kernel_rfl)
                      have h3 : vs 3 = .slice (some ⟨mg, mo, none⟩) mn mc := hd 3 (by kernel_rfl)
                      have h4 : vs 4 = .int .i64 (j : Int) := hd 4 (by kernel_rfl)
                      simp only [Nat.reduceAdd, h1, h3, h4] at hK ⊢
                      go_simp
                      exact hK.out _ _ rfl (Below.refl _ _)
                    case o6 =>
                      intro vs W hw hd K hK
                      have h1 : vs 1 = .bool false := hd 1 (by kernel_rfl)
                      have h5 : vs 5 = .pointer (some ⟨mg, mo + j * 4, none⟩) := hd 5 (by kernel_rfl)
                      obtain ⟨c0, c1, c2, c3⟩ := HMr.out W hw
                      simp only [Nat.reduceAdd, h1, h5] at hK ⊢
                      go_simp
                      exact hK.out _ _ rfl (Below.refl _ _)
                    case o7 =>
                      intro vs W hw hd K hK
                      have h1 : vs 1 = .bool false := hd 1 (by kernel_rfl)
                      obtain ⟨⟨f0, f1, f2, f3⟩, -⟩ := fcells4 (HFr.out W hw)
                      simp only [Nat.reduceAdd, h1] at hK ⊢
                      go_simp
                      exact hK.out _ _ rfl (Below.refl _ _)
                    case o8 =>
                      intro vs W hw hd K hK
                      have h1 : vs 1 = .bool false := hd 1 (by kernel_rfl)
                      have h6 : vs 6 = .agg #[.string yt, .string yi, .slice ya yn yc, .int .i64 yau] := hd 6 (by kernel_rfl)
                      have h7 : vs 7 = .agg #[.string gt, .string gi, .slice ga gn gc, .int .i64 gau] := hd 7 (by kernel_rfl)
                      simp only [Nat.reduceAdd, h1, h6, h7] at hK ⊢
                      go_simp
                      refine (cSm.out W hw).mono ?_
                      rintro e W' ⟨rfl, hb'⟩
                      exact hK.out _ _ rfl hb'
                    case o9 =>
                      intro vs W hw hd K hK
                      have h1 : vs 1 = .bool false := hd 1 (by kernel_rfl)
                      have h8 : vs 8 = .bool sm := hd 8 (by kernel_rfl)
                      simp only [Nat.reduceAdd, h1, h8] at hK ⊢
                      go_simp
                      exact hK.out _ _ rfl (Below.refl _ _)
                  case hfin =>
                    intro vs wq hw hd
                    have h9 : vs 9 = .bool sm := hd 9 (by decide)
                    simp only [Nat.reduceAdd, h9]
                    have HBw := Lib.hid (HBj.out.trans (hw.mono HBj.out.size))
                    have HNy : RowKit.Hid (hasF (ML.take (j + 1)) g = sm) := HNx.out.trans (Bool.false_or _)
                    clear hd h9 hw HMr cSm HAr HFr HNx
                    go_simp
                    go_wp2
                    go_roundw
                    case rel => exact ⟨j + 1, sm, rfl, by go_num, by omega, HNy.out, HBw.out⟩
                    case measure => simp [intOf]; omega
              · obtain rfl : mn = j := by omega
                obtain rfl : fo = true := by
                  rw [← HFo.out, ← HMN.out, List.take_length]
                  exact HMem2.out
                clear HFo HMem2 hjn
                go_wp2
                go_roundw
                case rel => exact ⟨k + 1, by go_num, by omega, HB7.out⟩
                case measure => simp [intOf]; omega
          · have q0 : (hv == 1) = false := beq_false_of_ne hv1
            have d0 : decide (hv = 1) = false := decide_eq_false hv1
            clear HMem
            go_wp2
            go_roundw
            case rel => exact ⟨k + 1, by go_num, by omega, HB6.out⟩
            case measure => simp [intOf]; omega
        · obtain rfl : bn = k := by omega
          have HB5 := Lib.hid (HB4.out.trans (HB.out.mono HB4.out.size))
          obtain ⟨-, ⟨x5, x6, x7, x8, -⟩, x10⟩ := pair_cells (HX4w.out wr HB.out)
          obtain ⟨⟨m0, m1, m2, m3, m4⟩, -⟩ := rcells (HA4.out wr HB.out)
          have cN5 := Lib.hid (cN.out wr HB5.out _ _ (HK4.out wr HB.out) (HM7.out wr HB.out))
          clear cN hk hkn HM6 HU6 HX6 cHow cSame HFst HHas
          go_wp2_with fail
          refine cN5.out.mono ?_
          rintro e w5 ⟨mv, fv, tv, rfl, hm, hf, ht, hb5⟩
          obtain ⟨ma', mc', rfl⟩ := hm.form
          obtain ⟨fa', fc', rfl⟩ := hf.form
          obtain ⟨ta', tc', rfl⟩ : ∃ a c, tv = .slice a 0 c := ht.form
          rw [HBN.out, HMN.out]
          have HW6 := Lib.hid (HB.out.trans (hb5.mono HB.out.size))
          have HB6 := Lib.hid (HB5.out.trans (hb5.mono HB5.out.size))
          clear hm hf ht hb5 cN5 x5 x6 x7 x8 x9 x10 m0 m1 m2 m3 m4 HB HB5
          obtain ⟨ca, hca⟩ : ∃ y, (#[.int .i64 a0, .int .i64 a1, .int .i64 a2, .string la, .slice ma' mn mc'] : Array Value) = y := ⟨_, rfl⟩
          obtain ⟨cb, hcb⟩ : ∃ y, (#[.int .i64 a0, .int .i64 b0, .int .i64 b1, .int .i64 b2, .string lb', .slice fa' bn fc', .slice ta' 0 tc'] : Array Value) = y := ⟨_, rfl⟩
          obtain ⟨wA, hwA⟩ : ∃ X, (w5.alloc (.cells #[.int .i64 0, .int .i64 0, .int .i64 0, .string ⟨#[]⟩, .slice none 0 0] 31)).alloc (.cells #[.int .i64 0, .int .i64 0, .int .i64 0, .int .i64 0, .string ⟨#[]⟩, .slice none 0 0, .slice none 0 0] 36) = X := ⟨_, rfl⟩
          have hbx : box2W w5 = wA := hwA
          have h1 := box2_one w5
          have h2 := box2_two w5 ca
          rw [hbx] at h1 h2
          have HZ1 := Lib.hid h1
          have HZ2 := Lib.hid h2
          clear h1 h2
          have h1 := box2_a w5 ca cb
          have h2 := box2_b w5 ca cb
          have h3 := box2_below w5 ca cb
          unfold box2F at h1 h2 h3
          rw [hbx] at h1 h2 h3
          clear hbx
          go_upto_region 25 with (first | (refine wpList_store_row rfl 31 (.tmp 11) (.tmp 108) rfl w5.heap.size ca rfl (by rw [← hca]; rfl) 31 _ (by (try rw [hwA]); exact HZ1.out) (by rw [← hca]; kernel_rfl) (by rw [← hca]; rfl) (by rw [← hca]; simp [Value.oneCell']) ?_) | (refine wpList_store_row rfl 36 (.tmp 12) (.tmp 109) rfl (w5.heap.size + 1) cb rfl (by rw [← hcb]; rfl) 36 _ (by (try rw [hwA]); exact HZ2.out) (by rw [← hcb]; kernel_rfl) (by rw [← hcb]; rfl) (by rw [← hcb]; simp [Value.oneCell']) ?_))
          (try rw [hwA])
          obtain ⟨w6, hW7⟩ : ∃ X, (wA.setRow w5.heap.size ca).setRow (w5.heap.size + 1) cb = X := ⟨_, rfl⟩
          rw [hW7] at h1 h2 h3
          rw [← hca] at h1
          rw [← hcb] at h2
          (try rw [hW7])
          have HbN := Lib.hid (Nat.le_refl w5.heap.size)
          obtain ⟨n9, hnA⟩ : ∃ y, w5.heap.size = y := ⟨_, rfl⟩
          rw [hnA] at h1 h2 HbN
          (try rw [hnA])
          have HbE := Lib.hid hnA
          have HbA := Lib.hid h1
          have HbP := Lib.hid h2
          have HbB := Lib.hid h3
          clear h1 h2 h3 hW7 hwA HZ1 HZ2 hca hcb hnA
          have HW7 := Lib.hid (HW6.out.trans (HbB.out.mono HW6.out.size))
          have HB7 := Lib.hid (HB6.out.trans (HbB.out.mono HB6.out.size))
          go_wp2_with fail
          refine (lalive16_any w6 (HE.out w6 HB7.out)).mono ?_
          rintro e w7 ⟨rfl, hb7⟩
          have HW8 := Lib.hid (HW7.out.trans (hb7.mono HW7.out.size))
          have HB8 := Lib.hid (HB7.out.trans (hb7.mono HB7.out.size))
          obtain ⟨⟨-, -, -, -, -, -, p6⟩, -⟩ := pcells16 (HP4.out w7 HW8.out)
          obtain ⟨⟨-, -, -, -, m4⟩, -⟩ := rcells (HA4.out w7 HW8.out)
          obtain ⟨⟨-, -, -, -, x4⟩, -, -⟩ := pair_cells (HX4w.out w7 HW8.out)
          obtain ⟨⟨-, -, -, -, -, -, q6⟩, -⟩ := pcells16 ((hb7.block _ (Array.getElem?_eq_some_iff.1 HbP.out).1).trans HbP.out)
          have hsub : (mn : Int) - (an : Int) = (tn : Int) := by have := HLM.out; omega
          clear hb7 HbA HbP HbB HbN HbE HW6 HB6 HW7 HB7 HA4 HP4 HX4w HK4
          go_wp2
          first | exact ⟨rfl, HB8.out⟩ | (go_ret; exact ⟨rfl, HB8.out⟩)
theorem ltakes16_any (a b : Rec) (l : List Kp) (u x k : Value) (w : World) (hE : Env w) (hu : FL u a.fields w) (hx : FL x b.fields w) (hk : KpL k l w) :
    Calls Tryd.prog 6 #[PairV a u b x k] w fun e w' => e = .returned (.bool true) ∧ Below w.heap.size w w' := by
  by_cases hf : fairB a b stdK = true
  · by_cases he : errM a b stdK = 0
    · exact ltak_ok a b l u x k w hE hu hx hk hf he
    · exact ltak_no a b l u x k w hE hu hx hk (fun _ => he)
  · exact ltak_no a b l u x k w hE hu hx hk (fun h => absurd h hf)
end

end Go.Proofs.YtceneblmllpdnaaDoor
