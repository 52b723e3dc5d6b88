/- Merged: LC13, R13M, LD13. -/
import Derived.Test.YtmcolapcmjdoeaaGreatDoorQ35
import Derived.Test.YtmcolapcmjdoeaaGreatDoorQ39
import Derived.Test.YtmcolapcmjdoeaaGreatDoorQ29
namespace Go.Proofs.YtmcolapcmjdoeaaGreatDoor

section
open Go.RowKit Go.PlainAid
theorem AL.one13 (w : World) (a : Au) (s t : Value) (h : AN a s t w) : AL (.slice (some ⟨w.heap.size, 0, none⟩) 1 1) [a] (w.alloc (.cells #[.int .i64 a.id, .int .i64 a.kind, .string (S a.heading), s, t] 31)) := by
  have hbk := heap_alloc_new w (.cells #[.int .i64 a.id, .int .i64 a.kind, .string (S a.heading), s, t] 31)
  have hb := (Below.refl w.heap.size w).alloc (Nat.le_refl _) (.cells #[.int .i64 a.id, .int .i64 a.kind, .string (S a.heading), s, t] 31)
  refine ⟨_, 1, rfl, Nat.le_refl _, by unfold maxLen; omega, (fun h => by cases h), fun i hi => ?_⟩
  have hi2 : i < 1 := hi
  obtain rfl : i = 0 := by omega
  refine ⟨w.heap.size, 0, s, t, rfl, (Array.getElem?_eq_some_iff.1 hbk).1, ?_, ?_, ?_, ?_, ?_, h.after hb⟩ <;> (rw [Lib.cell_of_heap hbk]; rfl)
theorem small_one (a : Au) (h : smallA [a] = true) : a.heading.length ≤ 1000 ∧ a.above.length ≤ 100 := by
  obtain ⟨-, h2⟩ := small_bnd [a] h
  obtain ⟨-, h3, h4⟩ := h2 a (by simp)
  exact ⟨h4 _ (by simp [hdsX]), h3⟩
theorem ren_some (L x : List Au) (id : Int) (h : List UInt8) (hr : renA L id h = (x, 0)) : ∃ a, getA L id = some a := by
  cases e : getA L id with
  | some a => exact ⟨a, rfl⟩
  | none =>
    unfold renA at hr
    rw [e] at hr
    cases hr
theorem merge_some (L x : List Au) (into gone : Int) (hr : mergeA L into gone = (x, 0)) : ∃ a b, getA L into = some a ∧ getA L gone = some b := by
  unfold mergeA at hr
  cases e : getA L into with
  | none => rw [e] at hr; cases hr
  | some a =>
    cases e2 : getA L gone with
    | none => rw [e, e2] at hr; cases hr
    | some b => exact ⟨a, b, rfl, rfl⟩
theorem Kp.set5 {w0 w w' W : World} (h : Kp w0 w w' W) (b : Nat) (x0 x1 x2 x3 x4 : Value) (h0 : w0.heap.size ≤ b) (h1 : b < w.heap.size ∨ w'.heap.size ≤ b) : Kp w0 w w' (setA5 W b x0 x1 x2 x3 x4) :=
  ((((h.set ⟨b, 0, none⟩ x0 h0 h1).set ⟨b, 1, none⟩ x1 h0 h1).set ⟨b, 2, none⟩ x2 h0 h1).set ⟨b, 3, none⟩ x3 h0 h1).set ⟨b, 4, none⟩ x4 h0 h1
theorem heap_set5 (W : World) (b : Nat) (x0 x1 x2 x3 x4 : Value) (k : Nat) (h : k ≠ b) : (setA5 W b x0 x1 x2 x3 x4).heap[k]? = W.heap[k]? := by
  unfold setA5
  rw [Below.heap_setCell _ ⟨b, 4, none⟩ x4 k h, Below.heap_setCell _ ⟨b, 3, none⟩ x3 k h, Below.heap_setCell _ ⟨b, 2, none⟩ x2 k h, Below.heap_setCell _ ⟨b, 1, none⟩ x1 k h, Below.heap_setCell _ ⟨b, 0, none⟩ x0 k h]
theorem au_put3 {w : World} {b : Nat} {x0 x1 x2 x3 x4 : Value} (h : w.heap[b]? = some (.cells #[x0, x1, x2, x3, x4] 31 (0, 0))) (v : Value) :
    (w.setCell ⟨b, 3, none⟩ v).heap[b]? = some (.cells #[x0, x1, x2, v, x4] 31 (0, 0)) := by
  simp [World.setCell, Array.getElem?_modify, h]
set_option maxHeartbeats 64000000 in
set_option maxRecDepth 100000 in
theorem lawKeeps13_any (C : Pr13) (v : Value) (L : List Au) (a : Au) (s t : Value) (into gone : Int) (w : World) (hE : Env w) (hv : AL v L w) (hA : AN a s t w)
    (hs : ∀ b ∈ L, b.see.length * 16 ≤ 140737488351232) (hs2 : a.see.length * 16 ≤ 140737488351232) :
    Calls Tryz.prog 4 #[v, AV a s t, .int .i64 into, .int .i64 gone] w fun e w' => e = .returned (.bool true) ∧ Below w.heap.size w w' := by
  obtain ⟨W0, hW0⟩ : ∃ W, w.alloc (.cells #[.int .i64 a.id, .int .i64 a.kind, .string (S a.heading), s, t] 31) = W := ⟨_, rfl⟩
  have b0 : Below w.heap.size w W0 := by rw [← hW0]; exact (Below.refl _ _).alloc (Nat.le_refl _) _
  have hR0 : W0.heap[w.heap.size]? = some (.cells #[.int .i64 a.id, .int .i64 a.kind, .string (S a.heading), s, t] 31 (0, 0)) := by rw [← hW0]; exact heap_alloc_new w _
  have hlt0 : w.heap.size < W0.heap.size := by rw [← hW0]; simp
  have HFin := Lib.hid (fun (W : World) (h : Below W0.heap.size W0 W) => b0.trans (h.mono b0.size))
  have HBox := Lib.hid (fun (W : World) (h : Below W0.heap.size W0 W) => acells ((h.block w.heap.size hlt0).trans hR0))
  have HEv := Lib.hid (fun (W : World) (h : Below W0.heap.size W0 W) => hE.after (b0.trans (h.mono b0.size)))
  have HV := Lib.hid (hv.after b0)
  have HAN := Lib.hid (fun (W : World) (h : Below W0.heap.size W0 W) => hA.after (b0.trans (h.mono b0.size)))
  have HAl := Lib.hid (fun (W : World) (h : Below W0.heap.size W0 W) => hv.after (b0.trans (h.mono b0.size)))
  have cAl := Lib.hid (lalive13_any C W0 (hE.after b0))
  have HC := Lib.hid C
  have HS := Lib.hid hs
  have HS2 := Lib.hid hs2
  have HW0 := Lib.hid hW0
  obtain ⟨va, vc, hvv, hc1, hc2⟩ := hv.length
  subst hvv
  obtain ⟨n, hn⟩ : ∃ n, L.length = n := ⟨_, rfl⟩
  have HN := Lib.hid hn
  rw [hn] at HV HAl hc1 ⊢
  have hhs := S_size a.heading
  have HHs := Lib.hid hhs
  have hwlt := hlt0
  clear C hE hv hs hs2 hW0 hR0 hlt0 b0 hn hhs hwlt
  obtain ⟨sL, hsL⟩ : ∃ b, smallA L = b := ⟨_, rfl⟩
  have HsL := Lib.hid hsL
  have cS := Lib.hid (fun (W : World) (h : Below W0.heap.size W0 W) => refSmall13_any _ L W (HAl.out W h) HS.out sL hsL)
  obtain ⟨sA, hsA⟩ : ∃ b, smallA [a] = b := ⟨_, rfl⟩
  have HsA := Lib.hid hsA
  obtain ⟨sa, sc, hs1, -, -⟩ := hA.1.length
  obtain ⟨ta, tc, ht1, -⟩ := hA.2.length
  obtain ⟨ns, hns⟩ : ∃ n, a.see.length = n := ⟨_, rfl⟩
  obtain ⟨nt, hnt⟩ : ∃ n, a.above.length = n := ⟨_, rfl⟩
  rw [hns] at hs1
  rw [hnt] at ht1
  subst hs1 ht1
  have HNt := Lib.hid hnt
  have cS2 := Lib.hid (fun (W : World) (h : Below W0.heap.size W0 W) => refSmall13_any _ [a] _ (AL.one13 W a _ _ (HAN.out W h)) (fun b hb => by rw [List.mem_singleton.1 hb]; exact HS2.out) sA hsA)
  obtain ⟨vh, hvh⟩ : ∃ b, validT a.heading = b := ⟨_, rfl⟩
  have HVh := Lib.hid hvh
  have cV := Lib.hid (fun (h : sA = true) (W : World) => refValid_any (S a.heading) (by rw [S_size]; have := (small_one a (hsA.trans h)).1; omega) W)
  rw [S_list, hvh] at cV
  clear hA hsL hsA hns hnt hvh
  unfold AV
  go_enter Tryz.func4, Tryz.ntmps4
  go_upto_region 1 with fail
  rw [HW0.out]
  clear HW0
  go_wp2_with fail
  refine cAl.out.mono ?_
  rintro e w1 ⟨rfl, hb1⟩
  have B1 := Lib.hid hb1
  have cS1 := Lib.hid (cS.out w1 hb1)
  clear hb1 cAl cS
  go_wp2_with fail
  refine cS1.out.mono ?_
  rintro e w2 ⟨rfl, hb2⟩
  have B2 := Lib.hid (B1.out.trans (hb2.mono B1.out.size))
  have hfin := Lib.hid (HFin.out w2 B2.out)
  clear hb2 cS1
  cases sL with
  | false =>
    clear cS2 cV
    go_wp2
    first | exact ⟨rfl, hfin.out⟩ | (go_ret; exact ⟨rfl, hfin.out⟩)
  | true =>
  obtain ⟨⟨x0, x1, x2, x3, x4⟩, -⟩ := HBox.out w2 B2.out
  have cS3 := Lib.hid (cS2.out w2 B2.out)
  have hb3 := (Below.refl w2.heap.size w2).alloc (Nat.le_refl _) (.cells #[.int .i64 a.id, .int .i64 a.kind, .string (S a.heading), .slice sa ns sc, .slice ta nt tc] 31)
  have B3 := Lib.hid (B2.out.trans (hb3.mono B2.out.size))
  clear hb3 cS2 hfin
  go_wp2_with fail
  refine cS3.out.mono ?_
  rintro e w4 ⟨rfl, hb4⟩
  have B4 := Lib.hid (B3.out.trans (hb4.mono B3.out.size))
  have hfin := Lib.hid (HFin.out w4 B4.out)
  clear hb4 cS3 B3 x0 x1 x2 x3 x4
  cases sA with
  | false =>
    clear cV
    go_wp2
    first | exact ⟨rfl, hfin.out⟩ | (go_ret; exact ⟨rfl, hfin.out⟩)
  | true =>
  obtain ⟨⟨x0, x1, x2, x3, x4⟩, -⟩ := HBox.out w4 B4.out
  have cV4 := Lib.hid (cV.out (by simp) w4)
  have HSo := Lib.hid (small_one a HsA.out)
  clear cV hfin
  go_wp2_with fail
  refine cV4.out.mono ?_
  rintro e w5 ⟨rfl, hb5⟩
  have B5 := Lib.hid (B4.out.trans (hb5.mono B4.out.size))
  have hfin := Lib.hid (HFin.out w5 B5.out)
  clear hb5 cV4 x0 x1 x2 x3 x4
  cases vh with
  | false =>
    go_wp2
    first | exact ⟨rfl, hfin.out⟩ | (go_ret; exact ⟨rfl, hfin.out⟩)
  | true =>
  have cR := HC.out.right _ L w5 (HEv.out w5 B5.out) (HAl.out w5 B5.out) (small_bnd L HsL.out)
  have CR := Lib.hid cR
  clear cR hfin
  go_wp2_with fail
  refine CR.out.mono ?_
  rintro e w6 ⟨rfl, hb6⟩
  have B6 := Lib.hid (B5.out.trans (hb6.mono B5.out.size))
  have hfin := Lib.hid (HFin.out w6 B6.out)
  clear hb6 CR
  by_cases hr : rightA L = 0
  · have HR := Lib.hid hr
    rw [hr]
    have HBn := Lib.hid (small_bnd L HsL.out)
    have cAd := HC.out.add _ L a _ _ w6 (HEv.out w6 B6.out) (HAl.out w6 B6.out) (HAN.out w6 B6.out) HBn.out (small_bnd [a] HsA.out) hr
    unfold AV at cAd
    have CAd := Lib.hid cAd
    obtain ⟨⟨x0, x1, x2, x3, x4⟩, -⟩ := HBox.out w6 B6.out
    clear hr hfin cAd
    go_wp2_with fail
    refine CAd.out.mono ?_
    rintro e w7 ⟨vx, rfl, hal7, hb7⟩
    have HX7 := Lib.hid hal7
    have B7 := Lib.hid (B6.out.trans (hb7.mono B6.out.size))
    obtain ⟨ea, hea⟩ : ∃ z, (addA L a).2 = z := ⟨_, rfl⟩
    rw [hea]
    have HEa := Lib.hid hea
    clear hal7 hb7 CAd x0 x1 x2 x3 x4 hea
    go_upto_if 48 with fail
    go_cut [] from 49 to 68 (fun wx => Below W0.heap.size W0 wx)
    case first =>
      by_cases h0 : ea = 0
      · subst h0
        obtain ⟨hrx, hrm⟩ := add_rem L (addA L a).1 a HR.out (by rw [← HEa.out])
        obtain ⟨X, hX⟩ : ∃ X, (addA L a).1 = X := ⟨_, rfl⟩
        rw [hX] at HX7 hrx hrm
        have hbx := (right_small X hrx).1
        have cRm := HC.out.remove vx X a.id w7 (HEv.out w7 B7.out) HX7.out hbx hrx
        rw [hrm] at cRm
        have CRm := Lib.hid cRm
        have HBx := Lib.hid hbx
        have HRx := Lib.hid hrx
        obtain ⟨⟨x0, x1, x2, x3, x4⟩, -⟩ := HBox.out w7 B7.out
        clear hrx hrm hX hbx cRm
        go_wp2_with fail
        refine CRm.out.mono ?_
        rintro e w8 ⟨vy, rfl, haly, hb8⟩
        have HY8 := Lib.hid haly
        have HX8 := Lib.hid (HX7.out.after hb8)
        have B8 := Lib.hid (B7.out.trans (hb8.mono B7.out.size))
        have cRx := HC.out.right vx X w8 (HEv.out w8 B8.out) HX8.out HBx.out
        rw [HRx.out] at cRx
        have CRx := Lib.hid cRx
        clear haly hb8 CRm cRx x0 x1 x2 x3 x4
        go_wp2_with fail
        refine CRx.out.mono ?_
        rintro e w9 ⟨rfl, hb9⟩
        have B9 := Lib.hid (B8.out.trans (hb9.mono B8.out.size))
        have CSm := Lib.hid (refSame13_eq L vy _ w9 (HY8.out.after hb9) (HAl.out w9 B9.out) (by have := HBn.out.1; omega) (fun b hb => Nat.le_trans (HBn.out.2 b hb).2.1 (by decide)))
        clear hb9 CRx
        go_wp2_with fail
        refine CSm.out.mono ?_
        rintro e w10 ⟨rfl, hb10⟩
        have B10 := B9.out.trans (hb10.mono B9.out.size)
        clear hb10 CSm
        go_wp2_with fail
        go_meet
        exact B10
      · have t0 : (ea == 0) = false := by simpa using h0
        have t0m : (ea != 0) = true := by simpa using h0
        have hb := B7.out
        clear h0
        go_wp2_with fail
        go_meet
        exact hb
    case rest =>
      have BA := Lib.hid hcut
      obtain ⟨o1, ho1⟩ : ∃ x, (getA L into).getD au0 = x := ⟨_, rfl⟩
      obtain ⟨o2, ho2⟩ : ∃ x, (getA L gone).getD au0 = x := ⟨_, rfl⟩
      have HO1 := Lib.hid ho1
      have HO2 := Lib.hid ho2
      have cG := HC.out.get _ L into W0 wc (HEv.out wc BA.out) BA.out HV.out HBn.out HR.out
      rw [ho1] at cG
      unfold AV at cG
      have CG := Lib.hid cG
      clear hcut cG ho1 ho2 B7 B6 B5 B4 B2 B1 HX7 HEa
      go_wp2_with fail
      refine CG.out.mono ?_
      rintro e w11 ⟨s1, t1, rfl, hk1, hb11⟩
      have han1 := hk1 w11 (Kp.self BA.out hb11)
      obtain ⟨sa1, sc1, hs1, -, -⟩ := han1.1.length
      obtain ⟨ta1, tc1, ht1, -⟩ := han1.2.length
      obtain ⟨ns1, hns1⟩ : ∃ n, o1.see.length = n := ⟨_, rfl⟩
      obtain ⟨nt1, hnt1⟩ : ∃ n, o1.above.length = n := ⟨_, rfl⟩
      rw [hns1] at hs1
      rw [hnt1] at ht1
      subst hs1 ht1
      clear han1 hns1 hnt1
      have HK1 := Lib.hid hk1
      have BB := Lib.hid (BA.out.trans (hb11.mono BA.out.size))
      have hN1 := heap_alloc_new w11 (.cells #[.int .i64 o1.id, .int .i64 o1.kind, .string (S o1.heading), .slice sa1 ns1 sc1, .slice ta1 nt1 tc1] 31)
      have bx1 := (Below.refl w11.heap.size w11).alloc (Nat.le_refl _) (.cells #[.int .i64 o1.id, .int .i64 o1.kind, .string (S o1.heading), .slice sa1 ns1 sc1, .slice ta1 nt1 tc1] 31)
      have hl1 : w11.heap.size < (w11.alloc (.cells #[.int .i64 o1.id, .int .i64 o1.kind, .string (S o1.heading), .slice sa1 ns1 sc1, .slice ta1 nt1 tc1] 31)).heap.size := by simp
      have hle1 : wc.heap.size ≤ w11.heap.size := hb11.size
      have HB11 := Lib.hid hb11
      clear hk1 CG hb11
      go_upto_region 11 with fail
      obtain ⟨V1, hV1⟩ : ∃ W, w11.alloc (.cells #[.int .i64 o1.id, .int .i64 o1.kind, .string (S o1.heading), .slice sa1 ns1 sc1, .slice ta1 nt1 tc1] 31) = W := ⟨_, rfl⟩
      rw [hV1] at hN1 bx1 hl1 ⊢
      obtain ⟨bo, hbo⟩ : ∃ b, w11.heap.size = b := ⟨_, rfl⟩
      rw [hbo] at hN1 hl1 hle1 ⊢
      have HBo := Lib.hid hbo
      have HN1 := Lib.hid hN1
      have BV1 := Lib.hid (BB.out.trans (bx1.mono BB.out.size))
      have hW0o : W0.heap.size ≤ bo := Nat.le_trans BA.out.size hle1
      have cG := HC.out.get _ L gone W0 V1 (HEv.out V1 BV1.out) BV1.out HV.out HBn.out HR.out
      rw [HO2.out] at cG
      unfold AV at cG
      have CG := Lib.hid cG
      clear hV1 hbo cG hN1
      go_wp2_with fail
      refine CG.out.mono ?_
      rintro e w12 ⟨s2, t2, rfl, hk2, hb12⟩
      have han2 := hk2 w12 (Kp.self BV1.out hb12)
      obtain ⟨sa2, sc2, hs2, -, -⟩ := han2.1.length
      obtain ⟨ta2, tc2, ht2, -⟩ := han2.2.length
      obtain ⟨ns2, hns2⟩ : ∃ n, o2.see.length = n := ⟨_, rfl⟩
      obtain ⟨nt2, hnt2⟩ : ∃ n, o2.above.length = n := ⟨_, rfl⟩
      rw [hns2] at hs2
      rw [hnt2] at ht2
      subst hs2 ht2
      clear han2 hns2 hnt2
      have HK2 := Lib.hid hk2
      have BC := Lib.hid (BV1.out.trans (hb12.mono BV1.out.size))
      have hN2 := heap_alloc_new w12 (.cells #[.int .i64 o2.id, .int .i64 o2.kind, .string (S o2.heading), .slice sa2 ns2 sc2, .slice ta2 nt2 tc2] 31)
      have bx2 := (Below.refl w12.heap.size w12).alloc (Nat.le_refl _) (.cells #[.int .i64 o2.id, .int .i64 o2.kind, .string (S o2.heading), .slice sa2 ns2 sc2, .slice ta2 nt2 tc2] 31)
      have hl2 : w12.heap.size < (w12.alloc (.cells #[.int .i64 o2.id, .int .i64 o2.kind, .string (S o2.heading), .slice sa2 ns2 sc2, .slice ta2 nt2 tc2] 31)).heap.size := by simp
      have hle2 : V1.heap.size ≤ w12.heap.size := hb12.size
      have HB12 := Lib.hid hb12
      clear hk2 CG hb12
      go_upto_region 12 with fail
      obtain ⟨V2, hV2⟩ : ∃ W, w12.alloc (.cells #[.int .i64 o2.id, .int .i64 o2.kind, .string (S o2.heading), .slice sa2 ns2 sc2, .slice ta2 nt2 tc2] 31) = W := ⟨_, rfl⟩
      rw [hV2] at hN2 bx2 hl2 ⊢
      obtain ⟨bg, hbg⟩ : ∃ b, w12.heap.size = b := ⟨_, rfl⟩
      rw [hbg] at hN2 hl2 hle2 ⊢
      have HBg := Lib.hid hbg
      have HN2 := Lib.hid hN2
      have BV2 := Lib.hid (BC.out.trans (bx2.mono BC.out.size))
      have HX2 := Lib.hid bx2
      have hx12 := Lib.hid bx1
      clear hV2 hbg hN2 bx1 bx2
      have cRn := HC.out.rename _ L into a.heading W0 V2 (HEv.out V2 BV2.out) BV2.out HV.out HBn.out HR.out HVh.out HSo.out.1
      have CRn := Lib.hid cRn
      obtain ⟨⟨x0, x1, x2, x3, x4⟩, -⟩ := HBox.out V2 BV2.out
      clear cRn
      go_wp2_with fail
      refine CRn.out.mono ?_
      rintro e w13 ⟨vr, rfl, hkr, hb13⟩
      have HKr := Lib.hid hkr
      have BD := Lib.hid (BV2.out.trans (hb13.mono BV2.out.size))
      obtain ⟨er, her⟩ : ∃ z, (renA L into a.heading).2 = z := ⟨_, rfl⟩
      rw [her]
      have HEr := Lib.hid her
      -- what lies in the two boxes
      have hb2 : bg < V2.heap.size := hl2
      have hbo2 : bo < w12.heap.size := Nat.lt_of_lt_of_le hl1 HB12.out.size
      have hO13 : w13.heap[bo]? = some (.cells #[.int .i64 o1.id, .int .i64 o1.kind, .string (S o1.heading), .slice sa1 ns1 sc1, .slice ta1 nt1 tc1] 31 (0, 0)) :=
        (hb13.block bo (Nat.lt_of_lt_of_le hbo2 HX2.out.size)).trans ((HX2.out.block bo hbo2).trans ((HB12.out.block bo hl1).trans HN1.out))
      have hG13 : w13.heap[bg]? = some (.cells #[.int .i64 o2.id, .int .i64 o2.kind, .string (S o2.heading), .slice sa2 ns2 sc2, .slice ta2 nt2 tc2] 31 (0, 0)) := (hb13.block bg hb2).trans HN2.out
      have hk2w : Kp W0 V1 w12 w13 := ((Kp.self BV1.out HB12.out).after BC.out.size (HX2.out.trans (hb13.mono HX2.out.size)))
      have HO13 := Lib.hid hO13
      have HG13 := Lib.hid hG13
      have HK2w := Lib.hid hk2w
      have HB13 := Lib.hid hb13
      have hbog : bo < bg := by rw [← HBg.out]; exact hbo2
      clear hkr hb13 CRn x0 x1 x2 x3 x4 her hO13 hG13 hk2w
      go_upto_if 90 with fail
      go_cut [] from 91 to 114 (fun wx => Below W0.heap.size W0 wx ∧ (∃ y0 y1 y2 y3 y4, wx.heap[bo]? = some (.cells #[y0, y1, y2, y3, y4] 31 (0, 0))) ∧ wx.heap[bg]? = some (.cells #[.int .i64 o2.id, .int .i64 o2.kind, .string (S o2.heading), .slice sa2 ns2 sc2, .slice ta2 nt2 tc2] 31 (0, 0)) ∧ Kp W0 V1 w12 wx)
      case first =>
        by_cases h0 : er = 0
        · subst h0
          obtain ⟨X2, hX2⟩ : ∃ X, (renA L into a.heading).1 = X := ⟨_, rfl⟩
          have hren : renA L into a.heading = (X2, 0) := by rw [← hX2, ← HEr.out]
          obtain ⟨b1, hb1⟩ := ren_some L X2 into a.heading hren
          have hbo1 : b1 = o1 := by rw [← HO1.out, hb1]; rfl
          subst hbo1
          obtain ⟨hrx, ⟨p, hp⟩, c, hc, hch⟩ := ren_keeps L X2 into a.heading b1 hb1 hren
          have hmem := (get_some L into b1 hb1).1
          have hbx := (right_small X2 hrx).1
          have hkk := HKr.out
          rw [hX2] at hkk
          have kb : bo < V2.heap.size := Nat.lt_of_lt_of_le hbo2 HX2.out.size
          have k13 : Kp W0 wc w11 w13 := (Kp.self BA.out HB11.out).after BB.out.size (hx12.out.trans ((HB12.out.trans ((HX2.out.trans (HB13.out.mono HX2.out.size)).mono HB12.out.size)).mono hx12.out.size))
          have kx := (Kp.self BV2.out HB13.out).set ⟨bo, 3, none⟩ (.slice none 0 0) hW0o (.inl kb)
          have k2 := HK2w.out.set ⟨bo, 3, none⟩ (.slice none 0 0) hW0o (.inl hl1)
          have k1 := k13.set ⟨bo, 3, none⟩ (.slice none 0 0) hW0o (.inr (Nat.le_of_eq HBo.out))
          have hBD := BD.out.setCell (p := ⟨bo, 3, none⟩) hW0o (.slice none 0 0)
          have hO := au_put3 HO13.out (.slice none 0 0)
          have hG := (Below.heap_setCell w13 ⟨bo, 3, none⟩ (.slice none 0 0) bg (Nat.ne_of_gt hbog)).trans HG13.out
          have hIL := (HK1.out _ k1).2
          obtain ⟨⟨x0, x1, x2, x3, x4⟩, z0, z1, z2, z3, z4⟩ := acells HO13.out
          have HXx := Lib.hid (hkk _ kx)
          have HP := Lib.hid hp
          have HBx := Lib.hid hbx
          have HRx := Lib.hid hrx
          have HMem := Lib.hid hmem
          have HCh := Lib.hid hch
          have HCg := Lib.hid hc
          clear hX2 hren hb1 hrx hp hc hch hmem hbx hkk k13 kx
          go_upto_region 15 with fail
          obtain ⟨W14, hW14⟩ : ∃ W, w13.setCell ⟨bo, 3, none⟩ (.slice none 0 0) = W := ⟨_, rfl⟩
          rw [hW14] at k2 hBD hO hG hIL HXx ⊢
          have HK14 := Lib.hid k2
          have BD14 := Lib.hid hBD
          have HO14 := Lib.hid hO
          have HG14 := Lib.hid hG
          have HIL14 := Lib.hid hIL
          clear hW14 k1 k2 hBD hO hG hIL x0 x1 x2 x3 x4 z0 z1 z2 z3 z4
          have cG := HC.out.get vr X2 into W14 W14 (HEv.out W14 BD14.out) (Below.refl _ _) HXx.out HBx.out HRx.out
          rw [HCg.out] at cG
          unfold AV at cG
          change Calls _ _ _ _ (fun e w' => ∃ s t, e = .returned (.tuple #[.agg #[.int .i64 c.id, .int .i64 c.kind, .string (S c.heading), s, t], .bool true]) ∧ (∀ W, Kp W14 W14 w' W → AN c s t W) ∧ Below W14.heap.size W14 w') at cG
          rw [HCh.out] at cG
          have CG := Lib.hid cG
          clear cG
          go_wp2_with fail
          refine CG.out.mono ?_
          rintro e w15 ⟨s5, t5, rfl, hk5, hb15⟩
          have han5 := hk5 w15 (Kp.self (Below.refl _ _) hb15)
          obtain ⟨sa5, sc5, hs5, -, -⟩ := han5.1.length
          obtain ⟨ta5, tc5, ht5, -⟩ := han5.2.length
          obtain ⟨ns5, hns5⟩ : ∃ n, c.see.length = n := ⟨_, rfl⟩
          obtain ⟨nt5, hnt5⟩ : ∃ n, c.above.length = n := ⟨_, rfl⟩
          rw [hns5] at hs5
          rw [hnt5] at ht5
          subst hs5 ht5
          have hN5 := heap_alloc_new w15 (.cells #[.int .i64 c.id, .int .i64 c.kind, .string (S a.heading), .slice sa5 ns5 sc5, .slice ta5 nt5 tc5] 31)
          have bx5 := (Below.refl w15.heap.size w15).alloc (Nat.le_refl _) (.cells #[.int .i64 c.id, .int .i64 c.kind, .string (S a.heading), .slice sa5 ns5 sc5, .slice ta5 nt5 tc5] 31)
          have hl5 : w15.heap.size < (w15.alloc (.cells #[.int .i64 c.id, .int .i64 c.kind, .string (S a.heading), .slice sa5 ns5 sc5, .slice ta5 nt5 tc5] 31)).heap.size := by simp
          have HB15 := Lib.hid hb15
          clear han5 hns5 hnt5 hk5 CG hb15
          go_upto_region 16 with fail
          obtain ⟨V5, hV5⟩ : ∃ W, w15.alloc (.cells #[.int .i64 c.id, .int .i64 c.kind, .string (S a.heading), .slice sa5 ns5 sc5, .slice ta5 nt5 tc5] 31) = W := ⟨_, rfl⟩
          rw [hV5] at hN5 bx5 hl5 ⊢
          obtain ⟨bn, hbn⟩ : ∃ b, w15.heap.size = b := ⟨_, rfl⟩
          rw [hbn] at hN5 hl5 ⊢
          have HV5 := Lib.hid (HB15.out.trans (bx5.mono HB15.out.size))
          have HN5 := Lib.hid hN5
          have BV5 := Lib.hid (BD14.out.trans (HV5.out.mono BD14.out.size))
          clear hV5 hbn hN5 bx5
          have cRx := HC.out.right vr X2 V5 (HEv.out V5 BV5.out) (HXx.out.after HV5.out) HBx.out
          rw [HRx.out] at cRx
          have CRx := Lib.hid cRx
          clear cRx
          go_wp2_with fail
          refine CRx.out.mono ?_
          rintro e w16 ⟨rfl, hb16⟩
          have H16 := Lib.hid (HV5.out.trans (hb16.mono HV5.out.size))
          have B16 := Lib.hid (BD14.out.trans (H16.out.mono BD14.out.size))
          have hbo14 : bo < W14.heap.size := (Array.getElem?_eq_some_iff.1 HO14.out).1
          have hO16 := (H16.out.block bo hbo14).trans HO14.out
          have hN16 := (hb16.block bn hl5).trans HN5.out
          have HN16 := Lib.hid hN16
          have cLd := llead_any HC.out vr X2 { b1 with see := [] } (.slice none 0 0) (.slice ta1 nt1 tc1) into w16 (HEv.out w16 B16.out) (HXx.out.after H16.out) HRx.out ⟨⟨none, 0, rfl, Nat.le_refl _, Nat.zero_le _, fun _ => rfl, fun i hi => by cases hi⟩, HIL14.out.after H16.out⟩ (by simp) (fun x hx => by
              have hx2 : x = b1.heading := by simpa [hdsX] using hx
              subst hx2
              exact ⟨(right_small L HR.out).2 b1 HMem.out _ (by simp [hdsX]), (HBn.out.2 b1 HMem.out).2.2 _ (by simp [hdsX])⟩) (fun x hx => by
              have hx2 : x = b1.heading := by simpa [hdsX] using hx
              subst hx2
              exact ⟨p, HP.out⟩)
          unfold AV at cLd
          have CLd := Lib.hid cLd
          obtain ⟨⟨x0, x1, x2, x3, x4⟩, -⟩ := acells hO16
          clear hb16 CRx cLd hO16 hN16
          go_wp2_with fail
          refine CLd.out.mono ?_
          rintro e w17 ⟨rfl, hb17⟩
          have H17 := Lib.hid (H16.out.trans (hb17.mono H16.out.size))
          have B17 := Lib.hid (BD14.out.trans (H17.out.mono BD14.out.size))
          have hbg14 : bg < W14.heap.size := (Array.getElem?_eq_some_iff.1 HG14.out).1
          have hO17 := (H17.out.block bo hbo14).trans HO14.out
          have hG17 := (H17.out.block bg hbg14).trans HG14.out
          have hbn16 : bn < w16.heap.size := (Array.getElem?_eq_some_iff.1 HN16.out).1
          have hN17 := (hb17.block bn hbn16).trans HN16.out
          have hk17 := HK14.out.after BC.out.size H17.out
          have HFn := Lib.hid (show Below W0.heap.size W0 w17 ∧ (∃ y0 y1 y2 y3 y4, w17.heap[bo]? = some (.cells #[y0, y1, y2, y3, y4] 31 (0, 0))) ∧ w17.heap[bg]? = some (.cells #[.int .i64 o2.id, .int .i64 o2.kind, .string (S o2.heading), .slice sa2 ns2 sc2, .slice ta2 nt2 tc2] 31 (0, 0)) ∧ Kp W0 V1 w12 w17 from ⟨B17.out, ⟨_, _, _, _, _, hO17⟩, hG17, hk17⟩)
          obtain ⟨⟨y0, y1, y2, y3, y4⟩, -⟩ := acells hN17
          clear x0 x1 x2 x3 x4
          obtain ⟨⟨x0, x1, x2, x3, x4⟩, -⟩ := HBox.out w17 B17.out
          clear hb17 CLd hO17 hG17 hN17 hk17
          go_wp2_with fail
          go_meet
          exact HFn.out
        · have t0 : (er == 0) = false := by simpa using h0
          have t0m : (er != 0) = true := by simpa using h0
          have hb := BD.out
          clear h0
          go_wp2_with fail
          go_meet
          exact ⟨hb, ⟨_, _, _, _, _, HO13.out⟩, HG13.out, HK2w.out⟩
      case rest =>
        obtain ⟨hBE, ⟨y0, y1, y2, y3, y4, hOE⟩, hGE, hKE⟩ := hcut
        have BE := Lib.hid hBE
        have HOE := Lib.hid hOE
        have HGE := Lib.hid hGE
        have HKE := Lib.hid hKE
        clear hBE hOE hGE hKE HKr HEr HO13 HG13 HK2w HB13 HN1 HN2 HK1 HB11 hx12 HX2
        have cSe := HC.out.setAbove _ L into _ a.above wc (HEv.out wc BE.out) (HAl.out wc BE.out) (HAN.out wc BE.out).2 HBn.out HSo.out.2 HR.out
        have CSe := Lib.hid cSe
        obtain ⟨⟨x0, x1, x2, x3, x4⟩, -⟩ := HBox.out wc BE.out
        clear cSe
        go_wp2_with fail
        refine CSe.out.mono ?_
        rintro e w19 ⟨vs, rfl, hals, hb19⟩
        have HAs := Lib.hid hals
        have HB19 := Lib.hid hb19
        have B19 := Lib.hid (BE.out.trans (hb19.mono BE.out.size))
        obtain ⟨es, hes⟩ : ∃ z, (setA L into a.above).2 = z := ⟨_, rfl⟩
        rw [hes]
        have HEs := Lib.hid hes
        clear hals hb19 CSe x0 x1 x2 x3 x4 hes
        go_upto_region 19 with fail
        go_cut [129] from 123 to 129 (fun r wx => r = .bool false ∧ Below w19.heap.size w19 wx)
        case first =>
          by_cases h0 : es = 0
          · subst h0
            obtain ⟨X3, hX3⟩ : ∃ X, (setA L into a.above).1 = X := ⟨_, rfl⟩
            have hr3 := set_keeps L X3 into a.above (by rw [← hX3, ← HEs.out])
            rw [hX3] at HAs
            have cR3 := HC.out.right vs X3 w19 (HEv.out w19 B19.out) HAs.out (right_small X3 hr3).1
            rw [hr3] at cR3
            have CR3 := Lib.hid cR3
            clear hX3 hr3 cR3
            go_wp2_with fail
            refine CR3.out.mono ?_
            rintro e w20 ⟨rfl, hb20⟩
            have HB20 := Lib.hid hb20
            clear hb20 CR3
            go_wp2_with fail
            go_meet
            exact ⟨rfl, HB20.out⟩
          · have t0 : (es == 0) = false := by simpa using h0
            have t0m : (es != 0) = true := by simpa using h0
            clear h0
            go_wp2_with fail
            go_meet
            exact ⟨rfl, Below.refl _ _⟩
        case rest =>
          obtain ⟨rfl, hwx⟩ := hcut
          have HB20 := Lib.hid (HB19.out.trans (hwx.mono HB19.out.size))
          have B20 := Lib.hid (B19.out.trans (hwx.mono B19.out.size))
          clear hwx
          have cG := HC.out.get _ L into W0 wc (HEv.out wc B20.out) B20.out HV.out HBn.out HR.out
          rw [HO1.out] at cG
          unfold AV at cG
          have CG := Lib.hid cG
          clear cG HAs HEs HB19
          go_wp2_with fail
          refine CG.out.mono ?_
          rintro e w21 ⟨s6, t6, rfl, hk6, hb21⟩
          have han6 := hk6 w21 (Kp.self B20.out hb21)
          obtain ⟨sa6, sc6, hs6, -, -⟩ := han6.1.length
          obtain ⟨ta6, tc6, ht6, -⟩ := han6.2.length
          obtain ⟨ns6, hns6⟩ : ∃ n, o1.see.length = n := ⟨_, rfl⟩
          obtain ⟨nt6, hnt6⟩ : ∃ n, o1.above.length = n := ⟨_, rfl⟩
          rw [hns6] at hs6
          rw [hnt6] at ht6
          subst hs6 ht6
          have HAll := Lib.hid (HB20.out.trans (hb21.mono HB20.out.size))
          have B21 := Lib.hid (B20.out.trans (hb21.mono B20.out.size))
          have hboE := (Array.getElem?_eq_some_iff.1 HOE.out).1
          have hbgE := (Array.getElem?_eq_some_iff.1 HGE.out).1
          have hO21 := (HAll.out.block bo hboE).trans HOE.out
          have hG21 := (HAll.out.block bg hbgE).trans HGE.out
          have hbc : bo < wc.heap.size := Nat.lt_of_lt_of_le hboE HB20.out.size
          have k6 := (Kp.self B20.out hb21).set5 bo (.int .i64 o1.id) (.int .i64 o1.kind) (.string (S o1.heading)) (.slice sa6 ns6 sc6) (.slice ta6 nt6 tc6) hW0o (.inl hbc)
          have k2 := (HKE.out.after BC.out.size HAll.out).set5 bo (.int .i64 o1.id) (.int .i64 o1.kind) (.string (S o1.heading)) (.slice sa6 ns6 sc6) (.slice ta6 nt6 tc6) hW0o (.inl hl1)
          have hA6 := hk6 _ k6
          have hA2 := HK2.out _ k2
          have hB22 := au_below (x0 := .int .i64 o1.id) (x1 := .int .i64 o1.kind) (x2 := .string (S o1.heading)) (x3 := .slice sa6 ns6 sc6) (x4 := .slice ta6 nt6 tc6) B21.out hW0o
          have hO22 := au_set5 (x0 := .int .i64 o1.id) (x1 := .int .i64 o1.kind) (x2 := .string (S o1.heading)) (x3 := .slice sa6 ns6 sc6) (x4 := .slice ta6 nt6 tc6) hO21
          have hG22 := (heap_set5 w21 bo (.int .i64 o1.id) (.int .i64 o1.kind) (.string (S o1.heading)) (.slice sa6 ns6 sc6) (.slice ta6 nt6 tc6) bg (Nat.ne_of_gt hbog)).trans hG21
          obtain ⟨⟨x0, x1, x2, x3, x4⟩, z0, z1, z2, z3, z4⟩ := acells hO21
          unfold setA5 at hA6 hA2 hB22 hO22 hG22
          clear han6 hns6 hnt6 hk6 CG hb21 k6 k2 hG21 hbc
          go_upto_region 22 with fail
          obtain ⟨W22, hW22⟩ : ∃ W, ((((w21.setCell ⟨bo, 0, none⟩ (.int .i64 o1.id)).setCell ⟨bo, 1, none⟩ (.int .i64 o1.kind)).setCell ⟨bo, 2, none⟩ (.string (S o1.heading))).setCell ⟨bo, 3, none⟩ (.slice sa6 ns6 sc6)).setCell ⟨bo, 4, none⟩ (.slice ta6 nt6 tc6) = W := ⟨_, rfl⟩
          rw [hW22] at hA6 hA2 hB22 hO22 hG22 ⊢
          have HA6 := Lib.hid hA6
          have HA2 := Lib.hid hA2
          have B22 := Lib.hid hB22
          have HO22 := Lib.hid hO22
          have HG22 := Lib.hid hG22
          clear hW22 hA6 hA2 hB22 hO22 hG22 x0 x1 x2 x3 x4 z0 z1 z2 z3 z4 hO21 HOE HGE HKE
          have cM := HC.out.merge _ L into gone W22 (HEv.out W22 B22.out) (HAl.out W22 B22.out) HBn.out HR.out
          have CM := Lib.hid cM
          clear cM
          go_wp2_with fail
          refine CM.out.mono ?_
          rintro e w23 ⟨vm, rfl, halm, hb23⟩
          have HM := Lib.hid halm
          have H23 := Lib.hid hb23
          have B23 := Lib.hid (B22.out.trans (hb23.mono B22.out.size))
          have hfin := Lib.hid (HFin.out w23 B23.out)
          obtain ⟨em, hem⟩ : ∃ z, (mergeA L into gone).2 = z := ⟨_, rfl⟩
          rw [hem]
          have HEm := Lib.hid hem
          clear halm hb23 CM hem
          by_cases h0 : em = 0
          · subst h0
            obtain ⟨X4, hX4⟩ : ∃ X, (mergeA L into gone).1 = X := ⟨_, rfl⟩
            have hmg : mergeA L into gone = (X4, 0) := by rw [← hX4, ← HEm.out]
            obtain ⟨a1, b1, ha1, hb1⟩ := merge_some L X4 into gone hmg
            have ho1 : a1 = o1 := by rw [← HO1.out, ha1]; rfl
            have ho2 : b1 = o2 := by rw [← HO2.out, hb1]; rfl
            subst ho1 ho2
            obtain ⟨hrx, hln, hl1m, hl2m⟩ := merge_keeps L X4 into gone a1 b1 HR.out ha1 hb1 hmg
            have hm1 := (get_some L into a1 ha1).1
            have hm2 := (get_some L gone b1 hb1).1
            rw [hX4] at HM
            have cRm := HC.out.right vm X4 w23 (HEv.out w23 B23.out) HM.out (right_small X4 hrx).1
            rw [hrx] at cRm
            have CRm := Lib.hid cRm
            have HRx := Lib.hid hrx
            have HL1 := Lib.hid hl1m
            have HL2 := Lib.hid hl2m
            have HM1 := Lib.hid hm1
            have HM2 := Lib.hid hm2
            obtain ⟨ma, mc, hvm, -, -⟩ := HM.out.length
            obtain ⟨m4, hm4⟩ : ∃ m, X4.length = m := ⟨_, rfl⟩
            rw [hm4] at hvm hln
            subst hvm
            have hm5 : m4 + 1 = n := by rw [hln, HN.out]
            have hn64 : n ≤ 64 := by rw [← HN.out]; exact HBn.out.1
            have e1 : (m4 : Int) + 1 = (n : Int) := by omega
            have hm64 : m4 ≤ 64 := by omega
            clear hmg ha1 hb1 hrx hl1m hl2m hm1 hm2 hX4 cRm hln hm4 hm5 hfin
            go_wp2_with fail
            refine CRm.out.mono ?_
            rintro e w24 ⟨rfl, hb24⟩
            have H24 := Lib.hid (H23.out.trans (hb24.mono H23.out.size))
            have B24 := Lib.hid (B22.out.trans (H24.out.mono B22.out.size))
            have hbo22 : bo < W22.heap.size := (Array.getElem?_eq_some_iff.1 HO22.out).1
            have hbg22 : bg < W22.heap.size := (Array.getElem?_eq_some_iff.1 HG22.out).1
            have hO24 := (H24.out.block bo hbo22).trans HO22.out
            have hX24 := HM.out.after hb24
            have HX24 := Lib.hid hX24
            have cL1 := llead_any HC.out _ X4 a1 _ _ into w24 (HEv.out w24 B24.out) hX24 HRx.out (HA6.out.after H24.out) (by have := (HBn.out.2 a1 HM1.out).1; omega) (fun x hx => ⟨(right_small L HR.out).2 a1 HM1.out x hx, (HBn.out.2 a1 HM1.out).2.2 x hx⟩) HL1.out
            unfold AV at cL1
            have CL1 := Lib.hid cL1
            obtain ⟨⟨x0, x1, x2, x3, x4⟩, -⟩ := acells hO24
            clear hb24 CRm hO24 hX24 cL1
            go_wp2_with fail
            refine CL1.out.mono ?_
            rintro e w25 ⟨rfl, hb25⟩
            have H25 := Lib.hid (H24.out.trans (hb25.mono H24.out.size))
            have B25 := Lib.hid (B22.out.trans (H25.out.mono B22.out.size))
            have hG25 := (H25.out.block bg hbg22).trans HG22.out
            have cL2 := llead_any HC.out _ X4 b1 _ _ into w25 (HEv.out w25 B25.out) (HX24.out.after hb25) HRx.out (HA2.out.after H25.out) (by have := (HBn.out.2 b1 HM2.out).1; omega) (fun x hx => ⟨(right_small L HR.out).2 b1 HM2.out x hx, (HBn.out.2 b1 HM2.out).2.2 x hx⟩) HL2.out
            unfold AV at cL2
            have CL2 := Lib.hid cL2
            clear x0 x1 x2 x3 x4
            obtain ⟨⟨x0, x1, x2, x3, x4⟩, -⟩ := acells hG25
            clear hb25 CL1 hG25 cL2
            go_wp2_with fail
            refine CL2.out.mono ?_
            rintro e w26 ⟨rfl, hb26⟩
            have hfin2 := Lib.hid (HFin.out w26 (B25.out.trans (hb26.mono B25.out.size)))
            clear hb26 CL2
            go_wp2
            first | exact ⟨rfl, hfin2.out⟩ | (go_ret; exact ⟨rfl, hfin2.out⟩)
          · have t0 : (em == 0) = false := by simpa using h0
            have t0m : (em != 0) = true := by simpa using h0
            clear h0
            go_wp2
            first | exact ⟨rfl, hfin.out⟩ | (go_ret; exact ⟨rfl, hfin.out⟩)
  · have t0 : (rightA L == 0) = false := by simpa using hr
    have t0m : (rightA L != 0) = true := by simpa using hr
    obtain ⟨re, hre⟩ : ∃ x, rightA L = x := ⟨_, rfl⟩
    rw [hre] at t0 t0m ⊢
    clear hr hre
    go_wp2
    first | exact ⟨rfl, hfin.out⟩ | (go_ret; exact ⟨rfl, hfin.out⟩)
end

section
open Go.RowKit Go.PlainAid
theorem findK_at (n : List UInt8) (H : List (List UInt8)) (k : Nat) (hk : k < H.length) (h : ∀ j, j < k → normX (H.getD j []) ≠ n) (he : normX (H.getD k []) = n) : findK n H = some k := by
  unfold findK
  rw [List.findIdx?_eq_some_iff_getElem]
  have hg : ∀ j (hj : j < H.length), H.getD j [] = H[j] := fun j hj => by rw [List.getD_eq_getElem?_getD, List.getElem?_eq_getElem hj]; rfl
  refine ⟨hk, by rw [hg k hk] at he; simpa using he, fun j hj => ?_⟩
  have := h j hj
  rw [hg j (by omega)] at this
  simpa using this
theorem findK_none (n : List UInt8) (H : List (List UInt8)) (h : ∀ j, j < H.length → normX (H.getD j []) ≠ n) : findK n H = none := by
  unfold findK
  rw [List.findIdx?_eq_none_iff]
  intro x hx
  obtain ⟨j, hj, rfl⟩ := List.mem_iff_getElem.1 hx
  have := h j hj
  rw [List.getD_eq_getElem?_getD, List.getElem?_eq_getElem hj] at this
  simpa using this
theorem findR_hit (L : List Au) (kd : Int) (n : List UInt8) (i : Nat) (hi : i < L.length) (k : Nat) (hk : (L.getD i au0).kind = kd) (hf : findK n (hdsX (L.getD i au0)) = some k) : findR (L.drop i) kd n = ((L.getD i au0).id, decide (k = 0), true) := by
  rw [drop_consA L i hi, findR, if_pos hk, hf]
theorem findR_kind (L : List Au) (kd : Int) (n : List UInt8) (i : Nat) (hi : i < L.length) (hk : (L.getD i au0).kind ≠ kd) : findR (L.drop i) kd n = findR (L.drop (i + 1)) kd n := by
  rw [drop_consA L i hi, findR, if_neg hk]
theorem findR_miss (L : List Au) (kd : Int) (n : List UInt8) (i : Nat) (hi : i < L.length) (hf : findK n (hdsX (L.getD i au0)) = none) : findR (L.drop i) kd n = findR (L.drop (i + 1)) kd n := by
  rw [drop_consA L i hi, findR]
  by_cases hk : (L.getD i au0).kind = kd
  · rw [if_pos hk, hf]
  · rw [if_neg hk]
set_option maxHeartbeats 32000000 in
set_option maxRecDepth 100000 in
theorem refFind13_any (v : Value) (L : List Au) (kd : Int) (h : List UInt8) (w : World) (hv : AL v L w) (hb : bnd L) (hx : ∀ a ∈ L, ∀ x ∈ hdsX a, validT x = true) (hh : validT h = true) (hl : h.length ≤ 1000) (r : Int × Bool × Bool) (hr : findA L kd h = r) :
    Calls Tryz.prog 13 #[v, .int .i64 kd, .string (S h)] w fun e w' => e = .returned (.tuple #[.int .i64 r.1, .bool r.2.1, .bool r.2.2]) ∧ Below w.heap.size w w' := by
  obtain ⟨Q, hQ⟩ : ∃ Q, (fun (e : Ending) (w' : World) => e = .returned (.tuple #[.int .i64 r.1, .bool r.2.1, .bool r.2.2]) ∧ Below w.heap.size w w') = Q := ⟨_, rfl⟩
  rw [hQ]
  obtain ⟨m, hm⟩ : ∃ m, normX h = m := ⟨_, rfl⟩
  unfold findA at hr
  rw [hm] at hr
  have HNo : RowKit.Hid (m = [] → ∀ W, Below w.heap.size w W → Q (.returned (.tuple #[.int .i64 0, .bool false, .bool false])) W) := by
    intro h0 W hW
    rw [if_pos h0] at hr
    rw [← hQ, ← hr]
    exact ⟨rfl, hW⟩
  have HYes : RowKit.Hid (m ≠ [] → ∀ x y z, findR L kd m = (x, y, z) → ∀ W, Below w.heap.size w W → Q (.returned (.tuple #[.int .i64 x, .bool y, .bool z])) W) := by
    intro h0 x y z hf W hW
    rw [if_neg h0, hf] at hr
    rw [← hQ, ← hr]
    exact ⟨rfl, hW⟩
  have cN := refNorm_any h hh (by omega) w
  rw [hm] at cN
  have CN := Lib.hid cN
  have HV := Lib.hid hv
  have HX := Lib.hid hx
  have HBn := Lib.hid hb
  obtain ⟨va, vc, rfl, hc1, hc2⟩ := hv.length
  obtain ⟨n, hn⟩ : ∃ n, L.length = n := ⟨_, rfl⟩
  have HN := Lib.hid hn
  have hn64 : n ≤ 64 := by rw [← hn]; exact hb.1
  rw [hn] at HV hc1 ⊢
  have hsf := S_facts m
  have HEq := Lib.hid (fun y => S_eq12 y m)
  clear hQ hr hm cN hv hx hb hn hh hl
  generalize S h = sh at *
  go_enter Tryz.func13, Tryz.ntmps13
  go_wp2_with fail
  refine CN.out.mono ?_
  rintro e w1 ⟨rfl, hb1⟩
  have B1 := Lib.hid hb1
  clear hb1 CN
  by_cases h0 : m = []
  · have hno := HNo.out h0 w1 B1.out
    subst h0
    have e0 : S [] = (⟨#[]⟩ : ByteArray) := rfl
    rw [e0]
    clear hsf HEq HNo HYes
    go_wp2
    (try simp only [Exit.inBlock, Exit.then])
    first | exact hno | (refine bodyPost_ret (results_tmp3 rfl _ _ _) rfl ?_; exact hno) | (go_ret2; exact hno)
  obtain ⟨s1, s2⟩ := hsf h0
  have HY := Lib.hid (HYes.out h0)
  obtain ⟨sm, hsm⟩ : ∃ x, S m = x := ⟨_, rfl⟩
  rw [hsm] at HEq s1 s2 ⊢
  clear h0 hsf hsm HNo HYes
  go_wp2
  go_loopw [10] (fun v10 wr => ∃ i : Nat, v10 = .int .i64 (i : Int) ∧ i ≤ n ∧ RowKit.Hid (findR (L.drop i) kd m = findR L kd m) ∧ RowKit.Hid (Below w.heap.size w wr)) (fun v10 _ => n - (intOf v10).toNat)
  case atStart => exact ⟨0, rfl, Nat.zero_le _, rfl, B1⟩
  case round =>
    obtain ⟨i, rfl, hi, HF, HB⟩ := hrel
    by_cases hin : i < n
    · have i1 : (0 : Int) ≤ (i : Int) := by omega
      have i2 : (i : Int) < (n : Int) := by omega
      have hil : i < L.length := by rw [HN.out]; exact hin
      have hmem := mem_getDA L i hil
      obtain ⟨g, o, cap, s, t, he, hg, hrd⟩ := HV.out.read i hil
      obtain ⟨rfl, -, hcp⟩ := Value.slice.inj he
      subst hcp
      have HRd := Lib.hid hrd
      have HVx := Lib.hid (HX.out _ hmem)
      have hba := HBn.out.2 _ hmem
      have HHit := Lib.hid (fun k hk hf => HF.out.symm.trans (findR_hit L kd m i hil k hk hf))
      have HKi := Lib.hid (fun hk => (findR_kind L kd m i hil hk).symm.trans HF.out)
      have HMi := Lib.hid (fun hf => (findR_miss L kd m i hil hf).symm.trans HF.out)
      obtain ⟨a, ha⟩ : ∃ a, L.getD i au0 = a := ⟨_, rfl⟩
      rw [ha] at HRd hba HVx HHit HKi HMi
      have hba1 := hba.1
      have HBx := Lib.hid hba.2.2
      obtain ⟨c0, c1, c2, c3, c4, hAN⟩ := HRd.out wr HB.out
      obtain ⟨sa, sc, hs1, -, -⟩ := hAN.1.length
      obtain ⟨ta, tc, ht1, -⟩ := hAN.2.length
      have cH := refHeadings_any a s t wr hAN (by omega)
      subst hs1 ht1
      unfold AV at cH
      have CH := Lib.hid cH
      clear he hrd hmem ha hba hAN cH hil HF
      go_wp2_with fail
      refine CH.out.mono ?_
      rintro e w2 ⟨vh, rfl, hr1, hb2⟩
      obtain ⟨gh, ch, rfl⟩ := sr_form hr1
      have HP := Lib.hid hr1.bl
      have B2 := Lib.hid (HB.out.trans (hb2.mono HB.out.size))
      obtain ⟨q, hq⟩ : ∃ q, (hdsX a).length = q := ⟨_, rfl⟩
      have HQ := Lib.hid hq
      have hq9 : q ≤ 101 := by rw [← hq]; unfold hdsX; rw [List.length_cons]; omega
      rw [hq] at HP ⊢
      clear hr1 hb2 CH c0 c1 c2 c3 c4 hq
      go_wp2
      go_loopw [12] (fun v12 ws => ∃ k : Nat, v12 = .int .i64 (k : Int) ∧ k ≤ q ∧ RowKit.Hid (a.kind = kd → ∀ j, j < k → normX ((hdsX a).getD j []) ≠ m) ∧ RowKit.Hid (Below w2.heap.size w2 ws)) (fun v12 _ => q - (intOf v12).toNat)
      case atStart => exact ⟨0, rfl, Nat.zero_le _, (fun _ j hj => by omega), Below.refl _ _⟩
      case round =>
        obtain ⟨k, rfl, hk, HJ, HBk⟩ := hrel
        have BW := Lib.hid (B2.out.trans (HBk.out.mono B2.out.size))
        by_cases hkq : k < q
        · have j1 : (0 : Int) ≤ (k : Int) := by omega
          have j2 : (k : Int) < (q : Int) := by omega
          obtain ⟨c0, c1, -, -, -, -⟩ := HRd.out wr BW.out
          by_cases hkd : a.kind = kd
          · obtain ⟨g2, o2, cap2, he, hg2, d0⟩ := (HP.out.after HBk.out).at13 k (by rw [HQ.out]; exact hkq)
            obtain ⟨ha2, -, hcp⟩ := Value.slice.inj he
            obtain ⟨rfl, rfl, -⟩ := Addr.mk.inj (Option.some.inj ha2)
            rw [Nat.zero_add] at d0
            have hmx : (hdsX a).getD k [] ∈ hdsX a := mem_getD12 (hdsX a) k (by rw [HQ.out]; exact hkq)
            have cN := refNorm_any ((hdsX a).getD k []) (HVx.out _ hmx) (Nat.le_trans (HBx.out _ hmx) (by decide)) wr
            have HAt := Lib.hid (fun hz => findK_at m (hdsX a) k (by rw [HQ.out]; exact hkq) (HJ.out hkd) hz)
            have HJ2 : RowKit.Hid (normX ((hdsX a).getD k []) ≠ m → a.kind = kd → ∀ j, j < k + 1 → normX ((hdsX a).getD j []) ≠ m) := by
              intro h0 _ j hj
              rcases Nat.lt_or_ge j k with h | h
              · exact HJ.out hkd j h
              · rw [show j = k by omega]; exact h0
            obtain ⟨x, hx⟩ : ∃ x, (hdsX a).getD k [] = x := ⟨_, rfl⟩
            rw [hx] at d0 cN HAt HJ2
            obtain ⟨z, hz⟩ : ∃ z, normX x = z := ⟨_, rfl⟩
            rw [hz] at cN HAt HJ2
            have CN := Lib.hid cN
            have hqz := HEq.out z
            have HKd := Lib.hid hkd
            rw [hkd] at c1
            clear he hcp hmx cN hx hz ha2 hkd
            generalize S x = sx at *
            obtain ⟨sz, hsz⟩ : ∃ b, S z = b := ⟨_, rfl⟩
            rw [hsz] at CN hqz
            clear hsz
            go_wp2_with fail
            refine CN.out.mono ?_
            rintro e w3 ⟨rfl, hb3⟩
            have HB3 := Lib.hid (HBk.out.trans (hb3.mono HBk.out.size))
            have BW3 := Lib.hid (BW.out.trans (hb3.mono BW.out.size))
            clear hb3 CN d0 c0 c1
            obtain ⟨c0, c1, -, -, -, -⟩ := HRd.out w3 BW3.out
            rw [HKd.out] at c1
            by_cases hzm : z = m
            · rw [decide_eq_true hzm] at hqz
              have hno := HY.out _ _ _ (HHit.out k HKd.out (HAt.out hzm)) w3 BW3.out
              by_cases hk0 : k = 0
              · subst hk0
                rw [decide_eq_true rfl] at hno
                clear hzm HY HHit HAt HJ2 HKi HMi HJ
                go_wp2
                (try simp only [Exit.inBlock, Exit.then])
                first | exact hno | (refine bodyPost_ret (results_tmp3 rfl _ _ _) rfl ?_; exact hno) | (go_ret2; exact hno)
              · rw [decide_eq_false hk0] at hno
                have t0 : ((k : Int) == 0) = false := by simp; omega
                clear hzm hk0 HY HHit HAt HJ2 HKi HMi HJ
                go_wp2
                (try simp only [Exit.inBlock, Exit.then])
                first | exact hno | (refine bodyPost_ret (results_tmp3 rfl _ _ _) rfl ?_; exact hno) | (go_ret2; exact hno)
            · rw [decide_eq_false hzm] at hqz
              have HJ3 := Lib.hid (HJ2.out hzm)
              clear hzm HAt HJ2 HJ
              go_wp2
              go_roundw
              case rel => exact ⟨k + 1, by go_num, by omega, HJ3.out, HB3⟩
              case measure => simp [intOf]; omega
          · have t1 : (a.kind == kd) = false := by simpa using hkd
            have HJ3 : RowKit.Hid (a.kind = kd → ∀ j, j < k + 1 → normX ((hdsX a).getD j []) ≠ m) := fun h => absurd h hkd
            clear hkd HJ
            go_wp2
            go_roundw
            case rel => exact ⟨k + 1, by go_num, by omega, HJ3.out, HBk⟩
            case measure => simp [intOf]; omega
        · have hqe : q = k := by omega
          subst hqe
          have HF2 : RowKit.Hid (findR (L.drop (i + 1)) kd m = findR L kd m) := by
            by_cases hkd : a.kind = kd
            · exact HMi.out (findK_none m (hdsX a) (fun j hj => HJ.out hkd j (by rw [HQ.out] at hj; exact hj)))
            · exact HKi.out hkd
          clear HJ HHit HKi HMi
          go_wp2
          go_roundw
          case rel => exact ⟨i + 1, by go_num, by omega, HF2, BW⟩
          case measure => simp [intOf]; omega
    · have hne : n = i := by omega
      subst hne
      have hnil : findR L kd m = (0, false, false) := by
        rw [← HF.out, List.drop_of_length_le (by rw [HN.out]; exact Nat.le_refl _)]
        rfl
      have hno := HY.out _ _ _ hnil wr HB.out
      clear HY HF hnil
      go_wp2
      (try simp only [Exit.inBlock, Exit.then])
      first | exact hno | (refine bodyPost_ret (results_tmp3 rfl _ _ _) rfl ?_; exact hno) | (go_ret2; exact hno)
end

section
open Go.RowKit Go.PlainAid
theorem got_len (L : List Au) (hb : bnd L) (id : Int) : ((getA L id).getD au0).above.length ≤ 1000000 := by
  cases e : getA L id with
  | none => exact Nat.zero_le _
  | some a => exact Nat.le_trans (hb.2 a (get_some L id a e).1).2.1 (by decide)
set_option maxHeartbeats 32000000 in
set_option maxRecDepth 100000 in
theorem lawFinds13_any (C : Pr13) (v : Value) (L : List Au) (id kd : Int) (h : List UInt8) (w : World) (hE : Env w) (hv : AL v L w) (hs : ∀ b ∈ L, b.see.length * 16 ≤ 140737488351232) (hkw : -9223372036854775808 ≤ kd ∧ kd ≤ 9223372036854775807) :
    Calls Tryz.prog 3 #[v, .int .i64 id, .int .i64 kd, .string (S h)] w fun e w' => e = .returned (.bool true) ∧ Below w.heap.size w w' := by
  have cAl := Lib.hid (lalive13_any C w hE)
  have HC := Lib.hid C
  have HE := Lib.hid (fun (W : World) (hb : Below w.heap.size w W) => hE.after hb)
  have HAl := Lib.hid (fun (W : World) (hb : Below w.heap.size w W) => hv.after hb)
  have HV := Lib.hid hv
  obtain ⟨va, vc, hvv, hc1, hc2⟩ := hv.length
  subst hvv
  obtain ⟨n, hn⟩ : ∃ n, L.length = n := ⟨_, rfl⟩
  have HN := Lib.hid hn
  rw [hn] at HAl HV hc1 ⊢
  have HS := Lib.hid hs
  have hz := S_size h
  obtain ⟨lh, hlh⟩ : ∃ n, h.length = n := ⟨_, rfl⟩
  have HLh := Lib.hid hlh
  rw [hlh] at hz
  obtain ⟨vb, hvb⟩ : ∃ b, validT h = b := ⟨_, rfl⟩
  have HVb := Lib.hid hvb
  have cV := Lib.hid (fun (hl : lh ≤ 300) (W : World) => (show Calls Tryz.prog 7 #[.string (S h)] W fun e w' => e = .returned (.bool vb) ∧ Below W.heap.size W w' by
    have h2 := refValid_any (S h) (by rw [S_size]; omega) W
    rw [S_list, hvb] at h2
    exact h2))
  obtain ⟨sb, hsb⟩ : ∃ b, smallA L = b := ⟨_, rfl⟩
  have HSb := Lib.hid hsb
  have cS := Lib.hid (fun (W : World) (hb : Below w.heap.size w W) => refSmall13_any _ L W (HAl.out W hb) HS.out sb hsb)
  clear C hE hv hs hn hlh hvb hsb
  go_enter Tryz.func3, Tryz.ntmps3
  go_wp2_with fail
  refine cAl.out.mono ?_
  rintro e w1 ⟨rfl, hb1⟩
  have B1 := Lib.hid hb1
  clear hb1 cAl
  by_cases h3 : 300 < lh
  · have t3 : decide ((300 : Int) < (lh : Int)) = true := decide_eq_true (by omega)
    have t3n : decide (300 < lh) = true := decide_eq_true h3
    have hno := B1.out
    clear h3 cV cS
    go_wp2
    first | exact ⟨rfl, hno⟩ | (go_ret; exact ⟨rfl, hno⟩)
  have t3 : decide ((300 : Int) < (lh : Int)) = false := decide_eq_false (by omega)
  have t3n : decide (300 < lh) = false := decide_eq_false h3
  have HL3 := Lib.hid h3
  have cV1 := Lib.hid (cV.out (by omega) w1)
  clear h3 cV
  go_wp2_with fail
  refine cV1.out.mono ?_
  rintro e w2 ⟨rfl, hb2⟩
  have B2 := Lib.hid (B1.out.trans (hb2.mono B1.out.size))
  clear hb2 cV1 t3 t3n
  cases vb with
  | false =>
    have hno := B2.out
    clear cS
    go_wp2
    first | exact ⟨rfl, hno⟩ | (go_ret; exact ⟨rfl, hno⟩)
  | true =>
  have cS2 := Lib.hid (cS.out w2 B2.out)
  clear cS
  go_wp2_with fail
  refine cS2.out.mono ?_
  rintro e w3 ⟨rfl, hb3⟩
  have B3 := Lib.hid (B2.out.trans (hb3.mono B2.out.size))
  clear hb3 cS2
  cases sb with
  | false =>
    have hno := B3.out
    go_wp2
    first | exact ⟨rfl, hno⟩ | (go_ret; exact ⟨rfl, hno⟩)
  | true =>
  have HBn := Lib.hid (small_bnd L HSb.out)
  have cR := Lib.hid (refRight13_any _ L w3 (HAl.out w3 B3.out) HBn.out)
  go_wp2_with fail
  refine cR.out.mono ?_
  rintro e w4 ⟨rfl, hb4⟩
  have B4 := Lib.hid (B3.out.trans (hb4.mono B3.out.size))
  clear hb4 cR
  by_cases hr : rightA L = 0
  · rw [hr]
    have HR := Lib.hid hr
    obtain ⟨y, hy⟩ : ∃ x, (getA L id).getD au0 = x := ⟨_, rfl⟩
    obtain ⟨is, his⟩ : ∃ x, (getA L id).isSome = x := ⟨_, rfl⟩
    have HYl := Lib.hid (show y.above.length ≤ 1000000 by rw [← hy]; exact got_len L HBn.out id)
    have cG := HC.out.get _ L id w w4 (HE.out w4 B4.out) B4.out HV.out HBn.out hr
    have HG2 := Lib.hid (fun (W : World) (hb : Below w.heap.size w W) => refGet_any _ L id W (HAl.out W hb) (by have := HBn.out.1; omega))
    rw [hy, his] at cG HG2
    unfold AV at cG HG2
    have CG := Lib.hid cG
    clear hr cG hy his
    go_wp2_with fail
    refine CG.out.mono ?_
    rintro e w5 ⟨s1, t1, rfl, hk1, hb5⟩
    have han1 := hk1 w5 (Kp.self B4.out hb5)
    obtain ⟨sa1, sc1, hs1, -, -⟩ := han1.1.length
    obtain ⟨ta1, tc1, ht1, -⟩ := han1.2.length
    obtain ⟨ns1, hns1⟩ : ∃ n, y.see.length = n := ⟨_, rfl⟩
    obtain ⟨nt1, hnt1⟩ : ∃ n, y.above.length = n := ⟨_, rfl⟩
    rw [hns1] at hs1
    rw [hnt1] at ht1
    subst hs1 ht1
    have B5 := Lib.hid (B4.out.trans (hb5.mono B4.out.size))
    have hN1 := heap_alloc_new w5 (.cells #[.int .i64 y.id, .int .i64 y.kind, .string (S y.heading), .slice sa1 ns1 sc1, .slice ta1 nt1 tc1] 31)
    have bx1 := (Below.refl w5.heap.size w5).alloc (Nat.le_refl _) (.cells #[.int .i64 y.id, .int .i64 y.kind, .string (S y.heading), .slice sa1 ns1 sc1, .slice ta1 nt1 tc1] 31)
    have hl1 : w5.heap.size < (w5.alloc (.cells #[.int .i64 y.id, .int .i64 y.kind, .string (S y.heading), .slice sa1 ns1 sc1, .slice ta1 nt1 tc1] 31)).heap.size := by simp
    have HA1 := Lib.hid han1
    clear han1 hns1 hnt1 hk1 hb5 CG
    go_upto_region 6 with fail
    obtain ⟨V1, hV1⟩ : ∃ W, w5.alloc (.cells #[.int .i64 y.id, .int .i64 y.kind, .string (S y.heading), .slice sa1 ns1 sc1, .slice ta1 nt1 tc1] 31) = W := ⟨_, rfl⟩
    rw [hV1] at hN1 bx1 hl1 ⊢
    obtain ⟨b1, hb1⟩ : ∃ b, w5.heap.size = b := ⟨_, rfl⟩
    have BV1 := Lib.hid (B5.out.trans (bx1.mono B5.out.size))
    have HA1v := Lib.hid (HA1.out.after bx1)
    rw [hb1] at hN1 hl1 ⊢
    have HN1 := Lib.hid hN1
    have CG2 := Lib.hid (HG2.out V1 BV1.out)
    clear hV1 hb1 bx1 hN1 HA1 HG2
    go_wp2_with fail
    refine CG2.out.mono ?_
    rintro e w6 ⟨s2, t2, rfl, han2, hb6⟩
    obtain ⟨sa2, sc2, hs2, -, -⟩ := han2.1.length
    obtain ⟨ta2, tc2, ht2, -⟩ := han2.2.length
    obtain ⟨ns2, hns2⟩ : ∃ n, y.see.length = n := ⟨_, rfl⟩
    obtain ⟨nt2, hnt2⟩ : ∃ n, y.above.length = n := ⟨_, rfl⟩
    rw [hns2] at hs2
    rw [hnt2] at ht2
    subst hs2 ht2
    have B6 := Lib.hid (BV1.out.trans (hb6.mono BV1.out.size))
    have hN16 := (hb6.block b1 hl1).trans HN1.out
    have hl16 : b1 < w6.heap.size := Nat.lt_of_lt_of_le hl1 hb6.size
    have hN2 := heap_alloc_new w6 (.cells #[.int .i64 y.id, .int .i64 y.kind, .string (S y.heading), .slice sa2 ns2 sc2, .slice ta2 nt2 tc2] 31)
    have bx2 := (Below.refl w6.heap.size w6).alloc (Nat.le_refl _) (.cells #[.int .i64 y.id, .int .i64 y.kind, .string (S y.heading), .slice sa2 ns2 sc2, .slice ta2 nt2 tc2] 31)
    have hl2 : w6.heap.size < (w6.alloc (.cells #[.int .i64 y.id, .int .i64 y.kind, .string (S y.heading), .slice sa2 ns2 sc2, .slice ta2 nt2 tc2] 31)).heap.size := by simp
    have HA1w := Lib.hid (HA1v.out.after hb6)
    have HA2 := Lib.hid han2
    clear han2 hns2 hnt2 hb6 CG2 HN1 HA1v hl1
    go_upto_region 7 with fail
    obtain ⟨V2, hV2⟩ : ∃ W, w6.alloc (.cells #[.int .i64 y.id, .int .i64 y.kind, .string (S y.heading), .slice sa2 ns2 sc2, .slice ta2 nt2 tc2] 31) = W := ⟨_, rfl⟩
    rw [hV2] at hN2 bx2 hl2 ⊢
    obtain ⟨b2, hb2⟩ : ∃ b, w6.heap.size = b := ⟨_, rfl⟩
    have BV2 := Lib.hid (B6.out.trans (bx2.mono B6.out.size))
    have hN1v := (bx2.block b1 hl16).trans hN16
    have hl1v : b1 < V2.heap.size := Nat.lt_of_lt_of_le hl16 bx2.size
    have HA1v := Lib.hid (HA1w.out.after bx2)
    have HA2v := Lib.hid (HA2.out.after bx2)
    rw [hb2] at hN2 hl2 ⊢
    have HN1 := Lib.hid hN1v
    have HN2 := Lib.hid hN2
    obtain ⟨x, p, q, hf⟩ : ∃ x p q, findA L kd h = (x, p, q) := ⟨_, _, _, rfl⟩
    have cF := HC.out.find _ L kd h V2 (HE.out V2 BV2.out) (HAl.out V2 BV2.out) HBn.out HR.out HVb.out (by have := HLh.out; have := HL3.out; omega) hkw
    rw [hf] at cF
    have CF := Lib.hid cF
    have HF2 := Lib.hid (fun (W : World) (hb : Below w.heap.size w W) => refFind13_any _ L kd h W (HAl.out W hb) HBn.out (right_small L HR.out).2 HVb.out (by have := HLh.out; have := HL3.out; omega) (x, p, q) hf)
    clear hV2 hb2 bx2 hN2 hN1v hN16 HA1w HA2 hl16 cF hf
    go_wp2_with fail
    refine CF.out.mono ?_
    rintro e w7 ⟨rfl, hb7⟩
    have B7 := Lib.hid (BV2.out.trans (hb7.mono BV2.out.size))
    have CF2 := Lib.hid (HF2.out w7 B7.out)
    have H7 := Lib.hid hb7
    clear hb7 CF HF2
    go_wp2_with fail
    refine CF2.out.mono ?_
    rintro e w8 ⟨rfl, hb8⟩
    have B8 := Lib.hid (B7.out.trans (hb8.mono B7.out.size))
    have H8 := Lib.hid (H7.out.trans (hb8.mono H7.out.size))
    have hM1 := (H8.out.block b1 hl1v).trans HN1.out
    have hM2 := (H8.out.block b2 hl2).trans HN2.out
    have HAa := Lib.hid (HA1v.out.after H8.out)
    have HAb := Lib.hid (HA2v.out.after H8.out)
    have c1 := AL.one13 w8 y _ _ HAa.out
    have bc1 := (Below.refl w8.heap.size w8).alloc (Nat.le_refl _) (.cells #[.int .i64 y.id, .int .i64 y.kind, .string (S y.heading), .slice sa1 ns1 sc1, .slice ta1 nt1 tc1] 31)
    obtain ⟨⟨x0, x1, x2, x3, x4⟩, -⟩ := acells hM1
    have hM2b := (bc1.block b2 (Nat.lt_of_lt_of_le hl2 H8.out.size)).trans hM2
    obtain ⟨⟨y0, y1, y2, y3, y4⟩, -⟩ := acells hM2b
    have c2 := AL.one13 (w8.alloc (.cells #[.int .i64 y.id, .int .i64 y.kind, .string (S y.heading), .slice sa1 ns1 sc1, .slice ta1 nt1 tc1] 31)) y _ _ (HAb.out.after bc1)
    have bc2 := (Below.refl (w8.alloc (.cells #[.int .i64 y.id, .int .i64 y.kind, .string (S y.heading), .slice sa1 ns1 sc1, .slice ta1 nt1 tc1] 31)).heap.size (w8.alloc (.cells #[.int .i64 y.id, .int .i64 y.kind, .string (S y.heading), .slice sa1 ns1 sc1, .slice ta1 nt1 tc1] 31))).alloc (Nat.le_refl _) (.cells #[.int .i64 y.id, .int .i64 y.kind, .string (S y.heading), .slice sa2 ns2 sc2, .slice ta2 nt2 tc2] 31)
    have cSm := refSame13_eq [y] _ _ _ (c1.after bc2) c2 (by simp) (fun a ha => by rw [List.mem_singleton.1 ha]; exact HYl.out)
    have hsz : (w8.alloc (.cells #[.int .i64 y.id, .int .i64 y.kind, .string (S y.heading), .slice sa1 ns1 sc1, .slice ta1 nt1 tc1] 31)).heap.size = w8.heap.size + 1 := by simp
    rw [hsz] at cSm
    have CSm := Lib.hid cSm
    have B9 := Lib.hid ((B8.out.trans (bc1.mono B8.out.size)).trans (bc2.mono (B8.out.trans (bc1.mono B8.out.size)).size))
    clear cSm c1 c2 bc1 bc2 hM2b hM1 hM2 hsz CF2
    go_wp2_with fail
    refine CSm.out.mono ?_
    rintro e w9 ⟨rfl, hb9⟩
    have hno := B9.out.trans (hb9.mono B9.out.size)
    clear hb9 CSm
    go_wp2
    all_goals first | exact ⟨rfl, hno⟩ | (go_ret; exact ⟨rfl, hno⟩)
  · have t0 : (rightA L == 0) = false := by simpa using hr
    have t0m : (rightA L != 0) = true := by simpa using hr
    obtain ⟨re, hre⟩ : ∃ x, rightA L = x := ⟨_, rfl⟩
    rw [hre] at t0 t0m ⊢
    have hno := B4.out
    clear hr hre
    go_wp2
    first | exact ⟨rfl, hno⟩ | (go_ret; exact ⟨rfl, hno⟩)
end

end Go.Proofs.YtmcolapcmjdoeaaGreatDoor
