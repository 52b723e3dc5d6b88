/- Merged: QE13, QF13, VM13. -/
import Derived.Test.YtmcolapcmjdoeaaGreatDoorQ25
import Derived.Test.YtmcolapcmjdoeaaGreatDoorQ26
import Derived.Test.YtmcolapcmjdoeaaGreatDoorQ01
import Derived.Maps.OwnSet
import Derived.DeepKeys4
import Derived.MapViews
import Derived.WalkArith
namespace Go.Proofs.YtmcolapcmjdoeaaGreatDoor

section
open Go.RowKit Go.PlainAid
theorem hdE_bad (kind : Int) (x : List UInt8) (h : badH kind x = true) : hdE kind x = 3 := by rw [hdE_eq, if_pos h]
theorem hdE_long (kind : Int) (x : List UInt8) (h : badH kind x = false) (h2 : 200 < x.length ∨ 4 < (partsX x).length) : hdE kind x = 4 := by rw [hdE_eq, if_neg (by rw [h]; decide), if_pos h2]
theorem hdE_ok (kind : Int) (x : List UInt8) (h : badH kind x = false) (h2 : ¬ (200 < x.length ∨ 4 < (partsX x).length)) : hdE kind x = 0 := by rw [hdE_eq, if_neg (by rw [h]; decide), if_neg h2]

set_option maxHeartbeats 16000000 in
set_option maxRecDepth 100000 in
theorem rightHeading_any (x : List UInt8) (kind : Int) (hl : x.length ≤ 9000) (w : World) (hE : Env w) :
    Calls Tryz.prog 72 #[.string (S x), .int .i64 kind] w fun e w' => e = .returned (.int .i64 (hdE kind x)) ∧ Below w.heap.size w w' := by
  obtain ⟨Q, hQ⟩ : ∃ Q, (fun (e : Ending) (w' : World) => e = .returned (.int .i64 (hdE kind x)) ∧ Below w.heap.size w w') = Q := ⟨_, rfl⟩
  rw [hQ]
  have HQ : RowKit.Hid (∀ z : Int, hdE kind x = z → ∀ W, Below w.heap.size w W → Q (.returned (.int .i64 z)) W) := by
    intro z hz W hW
    rw [← hQ]
    exact ⟨by rw [hz], hW⟩
  have HBad := Lib.hid (hdE_bad kind x)
  have HLong := Lib.hid (hdE_long kind x)
  have HOk := Lib.hid (hdE_ok kind x)
  obtain ⟨vB, hvB⟩ : ∃ b, validT x = b := ⟨_, rfl⟩
  have cV := Lib.hid (cValid x (by omega) vB hvB w hE)
  have HE := Lib.hid (fun (W : World) (hb : Below w.heap.size w W) => hE.after hb)
  have hb0 : badH kind x = (!vB || (!decide (cleanX x = x) || (decide (normX x = []) || (decide (kind = 3) && !decide (gluX dd (partsX x) = x))))) := by unfold badH; rw [hvB]
  rw [hb0] at HBad HLong HOk
  have hsz := S_size x
  cases vB with
  | false =>
    have hfin := Lib.hid (fun W hW => HQ.out 3 (HBad.out rfl) W hW)
    clear hQ HQ HBad HLong HOk hvB hE HE hb0 hsz hl
    generalize S x = sx at *
    go_enter Tryz.func72, Tryz.ntmps72
    go_wp2_with fail
    refine cV.out.mono ?_
    rintro e w1 ⟨rfl, hb1⟩
    have hno := hfin.out w1 hb1
    clear hb1
    go_wp2
    first | exact hno | (go_ret; exact hno)
  | true =>
  have hxt : ∃ c1, OKs c1 ∧ x = enc c1 := validT_text x hvB
  have cC := Lib.hid (fun (W : World) => cClean x hxt (by omega) W)
  have cN := Lib.hid (fun (W : World) (hb : Below w.heap.size w W) => pNorm12_any x hvB hl W (HE.out W hb))
  have cP := Lib.hid (fun (W : World) (hb : Below w.heap.size w W) => parts_any x hvB (by omega) W (HE.out W hb))
  have hpn : (partsX x).length ≤ 100000 := by
    have h1 := nonE_le ((splG dd x).map cleanX)
    have h2 := spl_len dd x.length x (Nat.le_refl _)
    unfold partsX
    rw [List.length_map] at h1
    omega
  have hpm : ∀ y ∈ partsX x, y.length ≤ 100000 := fun y hy => Nat.le_trans (parts_max13 x hvB y hy) (by omega)
  have cJ := Lib.hid (fun v W h => cJoin dd v (partsX x) W h (by decide) 100000 (by decide) hpm (by omega))
  have edd : S dd = ⟨#[45, 45]⟩ := rfl
  rw [edd] at cJ
  have hq := S_eq12 (cleanX x) x
  have hq2 := S_eq12 (gluX dd (partsX x)) x
  obtain ⟨y, hy⟩ : ∃ y, cleanX x = y := ⟨_, rfl⟩
  obtain ⟨z, hz⟩ : ∃ z, normX x = z := ⟨_, rfl⟩
  obtain ⟨P, hP⟩ : ∃ P, partsX x = P := ⟨_, rfl⟩
  rw [hy] at HBad HLong HOk cC hq
  rw [hz] at HBad HLong HOk cN
  rw [hP] at HBad HLong HOk cP cJ hpn hq2
  clear hQ hvB hE HE hb0 hxt hpm edd hy hz hP
  by_cases hyx : y = x
  case neg =>
    have hfin := Lib.hid (fun W hW => HQ.out 3 (HBad.out (by rw [decide_eq_false hyx]; rfl)) W hW)
    rw [decide_eq_false hyx] at hq
    clear HQ HBad HLong HOk hyx cN cP cJ hq2 hsz hl hpn
    generalize S x = sx at *
    generalize S y = sy at *
    go_enter Tryz.func72, Tryz.ntmps72
    go_wp2_with fail
    refine cV.out.mono ?_
    rintro e w1 ⟨rfl, hb1⟩
    go_wp2_with fail
    refine (cC.out w1).mono ?_
    rintro e w2 ⟨rfl, hb2⟩
    have hno := hfin.out w2 (hb1.trans (hb2.mono hb1.size))
    clear hb1 hb2
    go_wp2
    first | exact hno | (go_ret; exact hno)
  rw [decide_eq_true hyx] at HBad HLong HOk hq
  subst hyx
  by_cases hz0 : z = []
  · subst hz0
    have hfin := Lib.hid (fun W hW => HQ.out 3 (HBad.out rfl) W hW)
    have e0 : S [] = (⟨#[]⟩ : ByteArray) := rfl
    rw [e0] at cN
    obtain ⟨sn, hsn2⟩ : ∃ s, (⟨#[]⟩ : ByteArray) = s := ⟨_, rfl⟩
    have hn1 : sn.toList.isEmpty = true := by rw [← hsn2, ByteArray.toList_eq]; rfl
    have hn2 : sn.toList = [] := by rw [← hsn2, ByteArray.toList_eq]
    rw [hsn2] at cN
    clear HQ HBad HLong HOk cP cJ hq2 hsz hl hpn e0 hsn2
    generalize S y = sx at *
    go_enter Tryz.func72, Tryz.ntmps72
    go_wp2_with fail
    refine cV.out.mono ?_
    rintro e w1 ⟨rfl, hb1⟩
    go_wp2_with fail
    refine (cC.out w1).mono ?_
    rintro e w2 ⟨rfl, hb2⟩
    have hb12 := hb1.trans (hb2.mono hb1.size)
    have cN := Lib.hid (cN.out w2 hb12)
    have HB12 := Lib.hid hb12
    clear hb1 hb2 hb12
    go_wp2_with fail
    refine cN.out.mono ?_
    rintro e w3 ⟨rfl, hb3⟩
    have hno := hfin.out w3 (HB12.out.trans (hb3.mono HB12.out.size))
    clear hb3
    go_wp2
    first | exact hno | (go_ret; exact hno)
  obtain ⟨zn1, zn2⟩ := S_facts z hz0
  rw [decide_eq_false hz0] at HBad HLong HOk
  simp only [Bool.not_true, Bool.false_or] at HBad HLong HOk
  obtain ⟨n, hn⟩ : ∃ n, P.length = n := ⟨_, rfl⟩
  rw [hn] at hpn HLong HOk
  have HN := Lib.hid hn
  obtain ⟨m, hm⟩ : ∃ m, y.length = m := ⟨_, rfl⟩
  rw [hm] at hsz hl HLong HOk
  have HM := Lib.hid hm
  by_cases hk : kind = 3
  · subst hk
    obtain ⟨J, hJ⟩ : ∃ J, gluX dd P = J := ⟨_, rfl⟩
    rw [hJ] at HBad HLong HOk cJ hq2
    by_cases hjy : J = y
    · subst hjy
      rw [decide_eq_true rfl] at hq2
      have hnb : (decide ((3 : Int) = 3) && !decide (J = J)) = false := by simp
      have HLong2 := Lib.hid (HLong.out hnb)
      have HOk2 := Lib.hid (HOk.out hnb)
      clear hnb HBad hJ hm hn HLong HOk
      generalize S J = sx at *
      generalize S z = sz at *
      go_enter Tryz.func72, Tryz.ntmps72
      go_wp2_with fail
      refine cV.out.mono ?_
      rintro e w1 ⟨rfl, hb1⟩
      go_wp2_with fail
      refine (cC.out w1).mono ?_
      rintro e w2 ⟨rfl, hb2⟩
      have hb12 := hb1.trans (hb2.mono hb1.size)
      have cN := Lib.hid (cN.out w2 hb12)
      have HB12 := Lib.hid hb12
      clear hb1 hb2 hb12
      go_wp2_with fail
      refine cN.out.mono ?_
      rintro e w3 ⟨rfl, hb3⟩
      have HB13 := Lib.hid (HB12.out.trans (hb3.mono HB12.out.size))
      clear hb3
      have cP := Lib.hid (cP.out w3 HB13.out)
      go_wp2_with fail
      refine cP.out.mono ?_
      rintro e w4 ⟨v4, rfl, hv4, hb4⟩
      have HB14 := Lib.hid (HB13.out.trans (hb4.mono HB13.out.size))
      have cJ := Lib.hid (cJ.out v4 w4 hv4)
      obtain ⟨pa, pc, rfl, -, -⟩ := hv4.length
      rw [HN.out] at cJ ⊢
      clear hb4 hv4
      go_wp2_with fail
      refine cJ.out.mono ?_
      rintro e w5 ⟨rfl, hb5⟩
      have HB15 := Lib.hid (HB14.out.trans (hb5.mono HB14.out.size))
      clear hb5
      by_cases h2 : 200 < m ∨ 4 < n
      · have hno := HQ.out 4 (HLong2.out h2) w5 HB15.out
        by_cases h3 : 200 < m
        · have t1 : decide ((200 : Int) < (m : Int)) = true := decide_eq_true (by omega)
          go_wp2
          first | exact hno | (go_ret; exact hno)
        · have t1 : decide ((200 : Int) < (m : Int)) = false := decide_eq_false (by omega)
          have h4 : 4 < n := h2.resolve_left h3
          have t2 : decide ((4 : Int) < (n : Int)) = true := decide_eq_true (by omega)
          go_wp2
          first | exact hno | (go_ret; exact hno)
      · have hno := HQ.out 0 (HOk2.out h2) w5 HB15.out
        have h3 : ¬ 200 < m := fun h => h2 (.inl h)
        have h4 : ¬ 4 < n := fun h => h2 (.inr h)
        have t1 : decide ((200 : Int) < (m : Int)) = false := decide_eq_false (by omega)
        have t2 : decide ((4 : Int) < (n : Int)) = false := decide_eq_false (by omega)
        clear h2
        go_wp2
        first | exact hno | (go_ret; exact hno)
    · rw [decide_eq_false hjy] at hq2
      have hfin := Lib.hid (fun W hW => HQ.out 3 (HBad.out (by rw [decide_eq_false hjy]; rfl)) W hW)
      clear HLong HOk HBad hJ hm hn hjy
      generalize S y = sx at *
      generalize S J = sj at *
      generalize S z = sz at *
      go_enter Tryz.func72, Tryz.ntmps72
      go_wp2_with fail
      refine cV.out.mono ?_
      rintro e w1 ⟨rfl, hb1⟩
      go_wp2_with fail
      refine (cC.out w1).mono ?_
      rintro e w2 ⟨rfl, hb2⟩
      have hb12 := hb1.trans (hb2.mono hb1.size)
      have cN := Lib.hid (cN.out w2 hb12)
      have HB12 := Lib.hid hb12
      clear hb1 hb2 hb12
      go_wp2_with fail
      refine cN.out.mono ?_
      rintro e w3 ⟨rfl, hb3⟩
      have HB13 := Lib.hid (HB12.out.trans (hb3.mono HB12.out.size))
      clear hb3
      have cP := Lib.hid (cP.out w3 HB13.out)
      go_wp2_with fail
      refine cP.out.mono ?_
      rintro e w4 ⟨v4, rfl, hv4, hb4⟩
      have HB14 := Lib.hid (HB13.out.trans (hb4.mono HB13.out.size))
      have cJ := Lib.hid (cJ.out v4 w4 hv4)
      obtain ⟨pa, pc, rfl, -, -⟩ := hv4.length
      rw [HN.out] at cJ ⊢
      clear hb4 hv4
      go_wp2_with fail
      refine cJ.out.mono ?_
      rintro e w5 ⟨rfl, hb5⟩
      have HB15 := Lib.hid (HB14.out.trans (hb5.mono HB14.out.size))
      clear hb5
      have hno := hfin.out w5 HB15.out
      go_wp2
      first | exact hno | (go_ret; exact hno)
  · have t3 : (kind == 3) = false := by simpa using hk
    have t3' : decide (kind = 3) = false := decide_eq_false hk
    have hnb : (decide (kind = 3) && !decide (gluX dd P = y)) = false := by rw [t3']; rfl
    have HLong2 := Lib.hid (HLong.out hnb)
    have HOk2 := Lib.hid (HOk.out hnb)
    clear hnb HBad hm HLong HOk cJ hq2
    generalize S y = sx at *
    generalize S z = sz at *
    go_enter Tryz.func72, Tryz.ntmps72
    go_wp2_with fail
    refine cV.out.mono ?_
    rintro e w1 ⟨rfl, hb1⟩
    go_wp2_with fail
    refine (cC.out w1).mono ?_
    rintro e w2 ⟨rfl, hb2⟩
    have hb12 := hb1.trans (hb2.mono hb1.size)
    have cN := Lib.hid (cN.out w2 hb12)
    have HB12 := Lib.hid hb12
    clear hb1 hb2 hb12
    go_wp2_with fail
    refine cN.out.mono ?_
    rintro e w3 ⟨rfl, hb3⟩
    have HB13 := Lib.hid (HB12.out.trans (hb3.mono HB12.out.size))
    clear hb3
    have cP := Lib.hid (cP.out w3 HB13.out)
    go_wp2_with fail
    refine cP.out.mono ?_
    rintro e w5 ⟨v4, rfl, hv4, hb4⟩
    have HB15 := Lib.hid (HB13.out.trans (hb4.mono HB13.out.size))
    obtain ⟨pa, pc, rfl, -, -⟩ := hv4.length
    rw [hn]
    clear hb4 hv4 hn
    by_cases h2 : 200 < m ∨ 4 < n
    · have hno := HQ.out 4 (HLong2.out h2) w5 HB15.out
      by_cases h3 : 200 < m
      · have t1 : decide ((200 : Int) < (m : Int)) = true := decide_eq_true (by omega)
        go_wp2
        first | exact hno | (go_ret; exact hno)
      · have t1 : decide ((200 : Int) < (m : Int)) = false := decide_eq_false (by omega)
        have h4 : 4 < n := h2.resolve_left h3
        have t2 : decide ((4 : Int) < (n : Int)) = true := decide_eq_true (by omega)
        go_wp2
        first | exact hno | (go_ret; exact hno)
    · have hno := HQ.out 0 (HOk2.out h2) w5 HB15.out
      have h3 : ¬ 200 < m := fun h => h2 (.inl h)
      have h4 : ¬ 4 < n := fun h => h2 (.inr h)
      have t1 : decide ((200 : Int) < (m : Int)) = false := decide_eq_false (by omega)
      have t2 : decide ((4 : Int) < (n : Int)) = false := decide_eq_false (by omega)
      clear h2
      go_wp2
      first | exact hno | (go_ret; exact hno)
end

section
open Go.RowKit Go.PlainAid
theorem oneI_range (b : Int) (a : Au) (h : a.id < 1 ∨ 9999 < a.id) : oneI (some b) a = 2 := by unfold oneI; rw [if_pos h]
theorem oneI_twice (b : Int) (a : Au) (h : ¬ (a.id < 1 ∨ 9999 < a.id)) (h2 : a.id ≤ b) : oneI (some b) a = 7 := by
  unfold oneI
  rw [if_neg h]
  simp [h2]
theorem oneI_shape (b : Int) (a : Au) (h : ¬ (a.id < 1 ∨ 9999 < a.id)) (h2 : ¬ a.id ≤ b) : oneI (some b) a = shapeI a := by
  unfold oneI
  rw [if_neg h]
  simp [h2]

set_option maxHeartbeats 16000000 in
set_option maxRecDepth 100000 in
theorem rightAlone_any (a : Au) (s t : Value) (bf : Int) (w : World) (h : AN a s t w) (hz : a.see.length ≤ 1000) (hx : ∀ x ∈ hdsX a, x.length ≤ 9000) (hE : Env w) :
    Calls Tryz.prog 39 #[AV a s t, .int .i64 bf] w fun e w' => e = .returned (.int .i64 (oneI (some bf) a)) ∧ Below w.heap.size w w' := by
  obtain ⟨Q, hQ⟩ : ∃ Q, (fun (e : Ending) (w' : World) => e = .returned (.int .i64 (oneI (some bf) a)) ∧ Below w.heap.size w w') = Q := ⟨_, rfl⟩
  rw [hQ]
  obtain ⟨W0, hW0⟩ : ∃ W, w.alloc (.cells #[.int .i64 a.id, .int .i64 a.kind, .string (S a.heading), s, t] 31) = W := ⟨_, rfl⟩
  have b0 : Below w.heap.size w W0 := by rw [← hW0]; exact (Below.refl _ _).alloc (Nat.le_refl _) _
  have hR0 : W0.heap[w.heap.size]? = some (.cells #[.int .i64 a.id, .int .i64 a.kind, .string (S a.heading), s, t] 31 (0, 0)) := by rw [← hW0]; exact heap_alloc_new w _
  have hlt0 : w.heap.size < W0.heap.size := by rw [← hW0]; simp
  have HQ : RowKit.Hid (∀ z : Int, oneI (some bf) a = z → ∀ W, Below W0.heap.size W0 W → Q (.returned (.int .i64 z)) W) := by
    intro z hz W hW
    rw [← hQ]
    exact ⟨by rw [hz], b0.trans (hW.mono b0.size)⟩
  have HBox := Lib.hid (fun (W : World) (h : Below W0.heap.size W0 W) => acells ((h.block w.heap.size hlt0).trans hR0))
  have cH := Lib.hid (fun (W : World) (hb : Below W0.heap.size W0 W) => headings_any a s t W (h.1.after b0 |>.after hb) (by omega))
  have HE := Lib.hid (fun (W : World) (hb : Below W0.heap.size W0 W) => (hE.after b0).after hb)
  have HX := Lib.hid hx
  have HR := Lib.hid (oneI_range bf a)
  have HT := Lib.hid (oneI_twice bf a)
  have HS := Lib.hid (oneI_shape bf a)
  have HKd := Lib.hid (shapeI_kind a)
  have HHd := Lib.hid (fun h => shapeI_hd a h)
  have HEnd := Lib.hid (fun h => shapeI_end a h)
  have HW0 := Lib.hid hW0
  obtain ⟨sa, sc, hs, hc1, hc2⟩ := h.1.length
  subst hs
  obtain ⟨ta, tc, ht, htc⟩ := h.2.length
  subst ht
  obtain ⟨ns, hns⟩ : ∃ n, a.see.length = n := ⟨_, rfl⟩
  rw [hns] at cH HBox HEnd HW0 hz ⊢
  obtain ⟨nt, hnt⟩ : ∃ n, a.above.length = n := ⟨_, rfl⟩
  rw [hnt] at cH HBox HW0 ⊢
  have hhl : (hdsX a).length = ns + 1 := by unfold hdsX; rw [List.length_cons, hns]
  unfold AV at cH ⊢
  obtain ⟨kd, hkd⟩ : ∃ k, a.kind = k := ⟨_, rfl⟩
  rw [hkd] at cH HBox HW0 HKd HHd HEnd ⊢
  obtain ⟨ai, hai⟩ : ∃ k, a.id = k := ⟨_, rfl⟩
  rw [hai] at cH HBox HW0 HR HT HS ⊢
  obtain ⟨⟨x0, x1, x2, x3, x4⟩, -⟩ := HBox.out W0 (Below.refl _ _)
  clear hQ hW0 hR0 b0 hlt0 h hx hkd hns hnt htc hc1 hc2 hE hai
  go_enter Tryz.func39, Tryz.ntmps39
  go_upto_region 1 with fail
  rw [HW0.out]
  clear HW0
  by_cases hi1 : ai < 1
  · have t1 : decide (ai < 1) = true := decide_eq_true hi1
    have hno := HQ.out 2 (HR.out (.inl hi1)) W0 (Below.refl _ _)
    clear hi1
    go_wp2
    first | exact hno | (go_ret; exact hno)
  have t1 : decide (ai < 1) = false := decide_eq_false hi1
  by_cases hi9 : 9999 < ai
  · have t2 : decide (9999 < ai) = true := decide_eq_true hi9
    have hno := HQ.out 2 (HR.out (.inr hi9)) W0 (Below.refl _ _)
    clear hi1 hi9
    go_wp2
    first | exact hno | (go_ret; exact hno)
  have t2 : decide (9999 < ai) = false := decide_eq_false hi9
  have hr : ¬ (ai < 1 ∨ 9999 < ai) := fun g => g.elim hi1 hi9
  by_cases hib : ai ≤ bf
  · have t3 : decide (ai ≤ bf) = true := decide_eq_true hib
    have hno := HQ.out 7 (HT.out hr hib) W0 (Below.refl _ _)
    clear hi1 hi9 hr hib
    go_wp2
    first | exact hno | (go_ret; exact hno)
  have t3 : decide (ai ≤ bf) = false := decide_eq_false hib
  have HS2 := Lib.hid (HS.out hr hib)
  clear hi1 hi9 hr hib HR HT HS
  by_cases hk1 : kd < 1
  · have t4 : decide (kd < 1) = true := decide_eq_true hk1
    have hno := HQ.out 1 (HS2.out.trans (HKd.out (.inl hk1))) W0 (Below.refl _ _)
    clear hk1
    go_wp2
    first | exact hno | (go_ret; exact hno)
  have t4 : decide (kd < 1) = false := decide_eq_false hk1
  by_cases hk4 : 4 < kd
  · have t5 : decide (4 < kd) = true := decide_eq_true hk4
    have hno := HQ.out 1 (HS2.out.trans (HKd.out (.inr hk4))) W0 (Below.refl _ _)
    clear hk1 hk4
    go_wp2
    first | exact hno | (go_ret; exact hno)
  have t5 : decide (4 < kd) = false := decide_eq_false hk4
  have hkk : ¬ (kd < 1 ∨ 4 < kd) := fun g => g.elim hk1 hk4
  have HHd2 := Lib.hid (HHd.out hkk)
  have HEnd2 := Lib.hid (HEnd.out hkk)
  have cH0 := Lib.hid (cH.out W0 (Below.refl _ _))
  clear hkk hk1 hk4 HHd HEnd HKd cH
  go_wp2_with fail
  refine cH0.out.mono ?_
  rintro e w1 ⟨v, rfl, hr1, hvn, hb1⟩
  obtain ⟨g1, c1, hv1, -, -⟩ := own_form13 hr1
  have HP := Lib.hid hr1.bl
  have HB1 := Lib.hid hb1
  obtain ⟨n, hn⟩ : ∃ n, (hdsX a).length = n := ⟨_, rfl⟩
  have HN := Lib.hid hn
  rw [hn] at hv1 hhl
  subst hv1
  clear hr1 hb1 cH0 hn hvn x0 x1 x2 x3 x4 t1 t2 t3 t4 t5
  go_wp2
  go_loopw [34] (fun s34 wr => ∃ k : Nat, s34 = .int .i64 (k : Int) ∧ k ≤ n ∧ RowKit.Hid (∀ j, j < k → hdE kd ((hdsX a).getD j []) = 0) ∧ RowKit.Hid (Below W0.heap.size W0 wr) ∧ RowKit.Hid (Below w1.heap.size w1 wr)) (fun s34 _ => n - (intOf s34).toNat)
  case atStart => exact ⟨0, rfl, Nat.zero_le _, (fun j hj => by omega), HB1.out, Below.refl _ _⟩
  case round =>
    obtain ⟨k, rfl, hk, HJ, HBr, HBr1⟩ := hrel
    obtain ⟨⟨x0, x1, x2, x3, x4⟩, -⟩ := HBox.out wr HBr.out
    by_cases hkn : k < n
    · have i1 : (0 : Int) ≤ (k : Int) := by omega
      have i2 : (k : Int) < (n : Int) := by omega
      obtain ⟨g2, o2, cap2, he, hg2, c0⟩ := (HP.out.after HBr1.out).at13 k (by rw [HN.out]; exact hkn)
      obtain ⟨rfl, -, hcp⟩ := Value.slice.inj he
      have hml : ((hdsX a).getD k []).length ≤ 9000 := by
        refine HX.out _ ?_
        rw [List.getD_eq_getElem?_getD, List.getElem?_eq_getElem (by rw [HN.out]; exact hkn)]
        exact List.getElem_mem _
      have HHd3 := Lib.hid (HHd2.out k (by rw [HN.out]; exact hkn) HJ.out)
      obtain ⟨y, hy⟩ : ∃ y, (hdsX a).getD k [] = y := ⟨_, rfl⟩
      rw [hy] at c0 hml HHd3
      have cR := Lib.hid (rightHeading_any y kd hml wr (HE.out wr HBr.out))
      have HY := Lib.hid hy
      obtain ⟨r, hr⟩ : ∃ r, hdE kd y = r := ⟨_, rfl⟩
      rw [hr] at cR HHd3
      have HRr := Lib.hid hr
      clear he hcp hy hml hr
      generalize S y = sy at *
      by_cases hr0 : r = 0
      · subst hr0
        have HJ2 : RowKit.Hid (∀ j, j < k + 1 → hdE kd ((hdsX a).getD j []) = 0) := by
          intro j hj
          rcases Nat.lt_or_ge j k with h | h
          · exact HJ.out j h
          · rw [show j = k by omega, HY.out, HRr.out]
        go_wp2_with fail
        refine cR.out.mono ?_
        rintro e w5 ⟨rfl, hb5⟩
        have HB5 := Lib.hid (HBr.out.trans (hb5.mono HBr.out.size))
        have HB51 := Lib.hid (HBr1.out.trans (hb5.mono HBr1.out.size))
        clear hb5 x0 x1 x2 x3 x4
        go_wp2
        go_roundw
        case rel => exact ⟨k + 1, by go_num, by omega, HJ2.out, HB5.out, HB51.out⟩
        case measure => simp [intOf]; omega
      · have t0 : (r == 0) = false := by simpa using hr0
        have t0' : (r != 0) = true := by simpa using hr0
        have HHd4 := Lib.hid (HHd3.out hr0)
        clear hr0
        go_wp2_with fail
        refine cR.out.mono ?_
        rintro e w5 ⟨rfl, hb5⟩
        have hno := HQ.out r (HS2.out.trans HHd4.out) w5 (HBr.out.trans (hb5.mono HBr.out.size))
        clear hb5 x0 x1 x2 x3 x4
        go_wp2
        first | exact hno | (go_ret; exact hno)
    · obtain rfl : k = n := by omega
      have hend := HEnd2.out (by rw [HN.out]; exact HJ.out)
      by_cases h8 : 8 < ns
      · rw [if_pos h8] at hend
        have hno := HQ.out 13 (HS2.out.trans hend) wr HBr.out
        have t8 : decide ((8 : Int) < (ns : Int)) = true := decide_eq_true (by omega)
        clear hend
        go_wp2
        first | exact hno | (go_ret; exact hno)
      · rw [if_neg h8] at hend
        have hno := HQ.out 0 (HS2.out.trans hend) wr HBr.out
        have t8 : decide ((8 : Int) < (ns : Int)) = false := decide_eq_false (by omega)
        clear hend
        go_wp2
        first | exact hno | (go_ret; exact hno)
end

section
open Go.RowKit Go.Maps
/-- A value, as itself. -/
def exV (v : Value) : Option (DataW Value × List MemPlace) := some (.held v, [])
theorem ownsMap_tight {H : Type} {w : World} {P : Program} {k : TypeId} {R : Value → Option (DataW H × List MemPlace)} {b n : Nat} {D : DataW H} (h : w.ownsMap P k R b n D) : w.ownsMap P k R b (Maps.size D) D := by
  obtain ⟨es, clock, hb, F, hs, rfl⟩ := h
  refine ⟨es, clock, hb, F, ?_, rfl⟩
  simp [Maps.size, length_sorted]
theorem ownsMap_below {H : Type} {w w' : World} {P : Program} {k : TypeId} {R : Value → Option (DataW H × List MemPlace)} {b n : Nat} {D : DataW H} (h : w.ownsMap P k R b n D) (hb : w'.heap[b]? = w.heap[b]?) : w'.ownsMap P k R b n D := by
  obtain ⟨es, clock, h1, F, hs, hD⟩ := h
  exact ⟨es, clock, hb.trans h1, F, hs, hD⟩

/-- Block b is a map of m entries; at the key mk x it holds the value f x, if there is one. -/
def VM {α : Type} (kT : TypeId) (mk : α → Lit) (b : Nat) (f : α → Option Value) (m : Nat) (w : World) : Prop :=
  ∃ D : DataW Value, w.ownsMap Tryz.prog kT exV b m D ∧ Maps.size D = m ∧ ∀ x, Maps.has D (mk x) = (f x).isSome ∧ ∀ z, D.atKey (mk x) (.held z) = .held ((f x).getD z)
section
variable {α : Type} {kT : TypeId} {mk : α → Lit} {b m : Nat} {f : α → Option Value} {w : World}
theorem VM.made (kT : TypeId) (mk : α → Lit) (w : World) : VM kT mk w.heap.size (fun _ => none) 0 (w.alloc (.map #[] 0)) :=
  ⟨.map [], World.ownsMap_made w _ _ _, rfl, fun _ => ⟨rfl, fun _ => rfl⟩⟩
theorem VM.lt (h : VM kT mk b f m w) : b < w.heap.size := by
  obtain ⟨D, h, _⟩ := h
  exact h.lt
theorem VM.same {w' : World} (h : VM kT mk b f m w) (hb : w'.heap[b]? = w.heap[b]?) : VM kT mk b f m w' := by
  obtain ⟨D, h, h2⟩ := h
  exact ⟨D, ownsMap_below h hb, h2⟩
theorem VM.after {w' : World} (h : VM kT mk b f m w) (hb : Below w.heap.size w w') : VM kT mk b f m w' := h.same (hb.block b h.lt)
theorem VM.alloc (h : VM kT mk b f m w) (o : Obj) : VM kT mk b f m (w.alloc o) := by
  obtain ⟨D, h, h2⟩ := h
  exact ⟨D, h.alloc o, h2⟩
theorem VM.drew (h : VM kT mk b f m w) : VM kT mk b f m w.drew := h
theorem VM.look {t e : TypeId} (h : VM kT mk b f m w) (K : Keyed Tryz.prog kT) (ht : Tryz.prog.underlying t = some (.map kT e)) {z : Value} (hz : (zeroValue e).run Tryz.prog w = .ok z w) {key : Value} {x : α} (hkey : keyOf Tryz.prog kT key = some (mk x)) :
    (Instr.lookup t (.map (some b)) key false).run Tryz.prog w = .ok ((f x).getD z) w := by
  obtain ⟨D, h, _, hf⟩ := h
  obtain ⟨v, ps, hrun, hv⟩ := h.lookup K ht hz (zd := .held z) (zp := []) rfl hkey
  rw [(hf x).2 z] at hv
  unfold exV at hv
  have := (Prod.mk.inj (Option.some.inj hv)).1
  rw [hrun, DataW.held.inj this]
theorem VM.lookOk {t e : TypeId} (h : VM kT mk b f m w) (K : Keyed Tryz.prog kT) (ht : Tryz.prog.underlying t = some (.map kT e)) {z : Value} (hz : (zeroValue e).run Tryz.prog w = .ok z w) {key : Value} {x : α} (hkey : keyOf Tryz.prog kT key = some (mk x)) :
    (Instr.lookup t (.map (some b)) key true).run Tryz.prog w = .ok (.tuple #[(f x).getD z, .bool (f x).isSome]) w := by
  obtain ⟨D, h, _, hf⟩ := h
  obtain ⟨v, ps, hrun, hv⟩ := h.look_ok K ht hz (zd := .held z) (zp := []) rfl hkey
  rw [(hf x).2 z] at hv
  rw [(hf x).1] at hrun
  unfold exV at hv
  have := (Prod.mk.inj (Option.some.inj hv)).1
  rw [hrun, DataW.held.inj this]
theorem VM.len {t e : TypeId} (h : VM kT mk b f m w) (ht : Tryz.prog.underlying t = some (.map kT e)) (ty : TypeId) : (Builtin.len_ #[t] ty #[.map (some b)]).run Tryz.prog w = .ok (.int .i64 (m : Int)) w := by
  obtain ⟨D, h, hm, _⟩ := h
  rw [← hm]
  exact h.len ht ty
theorem VM.store [DecidableEq α] {t e : TypeId} (hinj : ∀ x y, mk x = mk y → x = y) (hk : ∀ x, WideAt.IsKeyLit (mk x)) (h : VM kT mk b f m w) (K : Keyed Tryz.prog kT) (ht : Tryz.prog.underlying t = some (.map kT e)) (hn : m < maxLen) {key : Value} {x : α} (hkey : keyOf Tryz.prog kT key = some (mk x)) (v : Value) :
    ∃ w', (Instr.mapUpdate t (.map (some b)) key v).run Tryz.prog w = .ok () w' ∧ VM kT mk b (fun y => if y = x then some v else f y) (if (f x).isSome = true then m else m + 1) w' ∧ w.grownBy w' (some b) := by
  obtain ⟨D, h, hm, hf⟩ := h
  have ht' := h.tidy K
  obtain ⟨w', hrun, h', hg⟩ := h.update K ht hn hkey (val := v) (d := .held v) (ps := []) rfl
  have hsz : Maps.size (D.put (mk x) (.held v)) = if (f x).isSome = true then m else m + 1 := by
    rw [size_put ht', (hf x).1, hm]
  refine ⟨w', hrun, ⟨_, ?_, hsz, fun y => ?_⟩, hg⟩
  · rw [← hsz]
    exact ownsMap_tight h'
  · show _ = (if y = x then some v else f y).isSome ∧ ∀ z, _ = DataW.held ((if y = x then some v else f y).getD z)
    by_cases hxy : y = x
    · subst hxy
      rw [if_pos rfl]
      exact ⟨has_put_same h.isMap (hk y) _, fun z => atKey_put_same h.isMap (hk y) _ _⟩
    · rw [if_neg hxy]
      have hne : mk y ≠ mk x := fun e => hxy (hinj _ _ e)
      exact ⟨(has_put_other hne _).trans (hf y).1, fun z => (atKey_put_other hne _ _).trans ((hf y).2 z)⟩
end
/-- m[k] = v where the walk stands at it. -/
theorem wpList_store_vm {α : Type} [DecidableEq α] {kT : TypeId} {mk : α → Lit} {b m : Nat} {f : α → Option Value} (w : World) {ops : Array Oper} {rest : List Oper} {o : Oper} {a : Act} {Q : Exit → Act → World → Prop}
    (hg : o.guard = none) (ma xa va : Operand) (t e : TypeId) (hop : o.op = Op.mapUpdate t ma xa va) (hinj : ∀ x y, mk x = mk y → x = y) (hk : ∀ x, WideAt.IsKeyLit (mk x)) (h : VM kT mk b f m w) (K : Keyed Tryz.prog kT) (ht : Tryz.prog.underlying t = some (.map kT e)) (hn : m < maxLen)
    (hm : a.eval ma = .map (some b)) (v : Value) (hv : a.eval va = v) (key : Value) (y : α) (hx : a.eval xa = key) (hkey : keyOf Tryz.prog kT key = some (mk y))
    (hK : ∀ w', VM kT mk b (fun z => if z = y then some v else f z) (if (f y).isSome = true then m else m + 1) w' → w.grownBy w' (some b) → wpList Tryz.prog ops Q rest (a.put o.dst undef) w') :
    wpList Tryz.prog ops Q (o :: rest) a w := by
  refine wpList_plain hg fun K' hK' => ?_
  obtain ⟨w', hrun, r1, r2⟩ := h.store hinj hk K ht hn hkey v
  unfold Oper.wp
  simp [execOp, hop, hm, hx, hv, hrun, Result.andThen]
  exact hK' _ _ (hK w' r1 r2)
/-- m[k] where the walk stands at it. -/
theorem wpList_look_vm {α : Type} {kT : TypeId} {mk : α → Lit} {b m : Nat} {f : α → Option Value} (w : World) {ops : Array Oper} {rest : List Oper} {o : Oper} {a : Act} {Q : Exit → Act → World → Prop}
    (hg : o.guard = none) (ma xa : Operand) (t e : TypeId) (hop : o.op = Op.lookup t ma xa false) (h : VM kT mk b f m w) (K : Keyed Tryz.prog kT) (ht : Tryz.prog.underlying t = some (.map kT e)) (z : Value) (hz : (zeroValue e).run Tryz.prog w = .ok z w)
    (hm : a.eval ma = .map (some b)) (key : Value) (y : α) (hx : a.eval xa = key) (hkey : keyOf Tryz.prog kT key = some (mk y)) (v : Value) (hv : (f y).getD z = v)
    (hK : wpList Tryz.prog ops Q rest (a.put o.dst v) w) :
    wpList Tryz.prog ops Q (o :: rest) a w := by
  refine wpList_plain hg fun K' hK' => ?_
  unfold Oper.wp
  simp [execOp, hop, hm, hx, h.look K ht hz hkey, hv, Result.andThen]
  exact hK' _ _ hK

/-! Keys: integers, names. -/
def mkI (x : Int) : Lit := .int .i64 x
theorem mkI_inj (x y : Int) (h : mkI x = mkI y) : x = y := by
  unfold mkI at h
  simpa using h
theorem mkI_key (x : Int) : WideAt.IsKeyLit (mkI x) := trivial
theorem keyed_int : Keyed Tryz.prog 3 := int_keyed Tryz.underlying3
def wfI (x : Int) : Prop := -9223372036854775808 ≤ x ∧ x ≤ 9223372036854775807
theorem wf_of (x : Int) (h : wfI x) : (Lit.int .i64 x).wf = true := WalkArith.wf_i64 h
theorem key_int (x : Int) (h : wfI x) : keyOf Tryz.prog 3 (.int .i64 x) = some (mkI x) := by
  have := keyOf_int_mk (a := x) Tryz.underlying3 (wf_of x h)
  exact this
def nmV (x : Int × List UInt8) : Value := .agg #[.int .i64 x.1, .string (S x.2)]
theorem laidOutV : laidOutB Tryz.prog = true := by kernel_rfl
theorem rowName : (65 : TypeId) < Tryz.prog.types.size := of_decide_eq_true (by kernel_rfl)
theorem name_keyAt : Tryz.prog.keyTypeAt 3 65 = true := by kernel_rfl
theorem keyed_name : Keyed Tryz.prog 65 := by
  refine Keyed.of_law (deep_law_laid laidOutV (m := 3) (by omega) rowName name_keyAt ?_)
  rw [Tryz.underlying65]
def mkN (x : Int × List UInt8) : Lit := .string (keyBytes [.int .i64 x.1, .string x.2])
theorem mkN_key (x : Int × List UInt8) : WideAt.IsKeyLit (mkN x) := trivial
theorem name_type : Tryz.prog.keyType 65 = true := by kernel_rfl
theorem name_cells : Tryz.prog.cellsOf 65 = 2 := by kernel_rfl
theorem name_size : ∃ m, Tryz.prog.types.size = m + 2 := ⟨Tryz.prog.types.size - 2, by
  have : 2 ≤ Tryz.prog.types.size := of_decide_eq_true (by kernel_rfl)
  omega⟩
theorem key_name (x : Int × List UInt8) (h : wfI x.1) (hl : x.2.length ≤ maxLen) : keyOf Tryz.prog 65 (nmV x) = some (mkN x) := by
  obtain ⟨m, hm⟩ := name_size
  have hw : (Lit.int .i64 x.1).wf = true := WalkArith.wf_i64 h
  have hc := name_cells
  have hS : (S x.2).size ≤ maxLen := by rw [S_size]; exact hl
  have hk := name_type
  have hf : (nmV x).formed Tryz.prog 65 = true := by
    unfold nmV Value.formed
    simp [Tryz.underlying65, hc]
  unfold keyOf
  rw [Tryz.underlying65]
  simp only [hk, hf, Bool.and_self, if_true]
  rw [hm]
  have hcl : (nmV x).cells.toList = [.int .i64 x.1, .string (S x.2)] := rfl
  rw [hcl]
  have e1 : Tryz.prog.keyLits (m + 2) 3 [.int .i64 x.1] = some [.int .i64 x.1] := by
    unfold Program.keyLits
    rw [Tryz.underlying3]
    simp only [hw, and_self, if_true]
  have e2 : Tryz.prog.keyLits (m + 2) 9 [.string (S x.2)] = some [.string x.2] := by
    unfold Program.keyLits
    rw [Tryz.underlying9]
    simp only [hS, if_true]
    rfl
  have e3 : Tryz.prog.keyLits (m + 2 + 1) 65 [.int .i64 x.1, .string (S x.2)] = some [.int .i64 x.1, .string x.2] := by
    unfold Program.keyLits
    rw [Tryz.underlying65]
    have h3 : Tryz.prog.cellsOf 3 = 1 := by kernel_rfl
    have h9 : Tryz.prog.cellsOf 9 = 1 := by kernel_rfl
    simp [hc, h3, h9, e1, e2]
  rw [e3]
  rfl
/-- A name that can be a key. -/
abbrev NK : Type := { x : Int × List UInt8 // wfI x.1 ∧ x.2.length ≤ maxLen }
def mkNK (x : NK) : Lit := mkN x.1
theorem key_nk (x : NK) : keyOf Tryz.prog 65 (nmV x.1) = some (mkNK x) := key_name x.1 x.2.1 x.2.2
theorem mkNK_inj (x y : NK) (h : mkNK x = mkNK y) : x = y := by
  have h1 := keyed_name.inj (key_nk x) (by rw [h]; exact key_nk y)
  unfold nmV at h1
  have h2 := congrArg Array.toList (Value.agg.inj h1)
  simp only [List.cons.injEq, Value.int.injEq, Value.string.injEq, true_and, and_true] at h2
  exact Subtype.ext (Prod.ext h2.1 (S_inj h2.2))
theorem mkNK_key (x : NK) : WideAt.IsKeyLit (mkNK x) := trivial
end

end Go.Proofs.YtmcolapcmjdoeaaGreatDoor
