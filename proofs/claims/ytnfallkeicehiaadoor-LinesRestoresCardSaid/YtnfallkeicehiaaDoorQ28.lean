/- Merged: Rk11, FG07, FP07. -/
import Derived.Test.YtnfallkeicehiaaDoorQ26
import Derived.Test.YtnfallkeicehiaaDoorQ27
import Derived.Test.YtnfallkeicehiaaDoorQ14
import Derived.Test.YtnfallkeicehiaaDoorQ16
import Derived.Test.YtnfallkeicehiaaDoorQ23
import Derived.Test.YtnfallkeicehiaaDoorQ08
import Derived.Lib.SliceRun
import Derived.Laws.IdiomCopy
import Derived.Test.YtnfallkeicehiaaDoorQ21
import Derived.RegionTactic
import Derived.BigRegion
namespace Go.Proofs.YtnfallkeicehiaaDoor

section
open Go.RowKit Go.PlainAid
set_option maxHeartbeats 16000000 in
set_option maxRecDepth 100000 in
theorem pPrint11_any (r : Rec) (u : Value) (w : World) (hE : Env w) (hu : FL u r.fields w) (hlz : r.lang.length ≤ maxLen) (hz : okZ r) (s : List UInt8) (er : Int) (hs : prnX r = (s, er)) :
    Calls Tryd.prog 8 #[RV r u] w fun e w' => e = .returned (.tuple #[.string (S s), .int .i64 er]) ∧ Below w.heap.size w w' := by
  obtain ⟨Q, hQ⟩ : ∃ Q, (fun (e : Ending) (w' : World) => e = .returned (.tuple #[.string (S s), .int .i64 er]) ∧ Below w.heap.size w w') = Q := ⟨_, rfl⟩
  rw [hQ]
  have HQ : RowKit.Hid (∀ e w', (e = .returned (.tuple #[.string (S s), .int .i64 er]) ∧ Below w.heap.size w w') → Q e w') := by rw [← hQ]; exact fun _ _ h => h
  clear hQ
  have cR := fun W hE hW => pRight_any r u W hE hW hlz hz (rightRI r) rfl
  have HU := Lib.hid hu
  obtain ⟨ua, uc, hue, -, hmax⟩ := hu.length
  subst hue
  obtain ⟨n, hn⟩ : ∃ n, r.fields.length = n := ⟨_, rfl⟩
  have cHd := fun (h : rightRI r = 0) W hE => header_any r ua n uc h W hE
  rw [hn] at HU cR ⊢
  have HN := Lib.hid hn
  unfold RV at cR cHd ⊢
  obtain ⟨W0, hW0⟩ : ∃ W0, w.alloc (.cells #[.int .i64 r.id, .int .i64 r.ver, .int .i64 r.kind, .string (S r.lang), .slice ua n uc] 24) = W0 := ⟨_, rfl⟩
  have b0 : Below w.heap.size w W0 := by rw [← hW0]; exact (Below.refl w.heap.size w).alloc (Nat.le_refl _) _
  have hR0 : W0.heap[w.heap.size]? = some (.cells #[.int .i64 r.id, .int .i64 r.ver, .int .i64 r.kind, .string (S r.lang), .slice ua n uc] 24 (0, 0)) := by rw [← hW0]; exact heap_alloc_new w _
  have hlt0 : w.heap.size < W0.heap.size := by rw [← hW0]; simp
  have HR := Lib.hid (fun (W : World) (h : Below W0.heap.size W0 W) => rcells ((h.block w.heap.size hlt0).trans hR0))
  have HUw := Lib.hid (fun (W : World) (h : Below W0.heap.size W0 W) => (HU.out.after b0).after h)
  have HBel := Lib.hid (fun (W : World) (h : Below W0.heap.size W0 W) => b0.trans (h.mono b0.size))
  have HEw := Lib.hid (fun (W : World) (h : Below W0.heap.size W0 W) => (hE.after b0).after h)
  have HW0 := Lib.hid hW0
  replace cR := Lib.hid cR
  replace cHd := Lib.hid cHd
  clear hu hn hz hW0 b0 hR0 hlt0 HU hE hlz
  by_cases h0 : rightRI r = 0
  · rw [prn_of r h0] at hs
    obtain ⟨rfl, rfl⟩ := Prod.mk.inj hs
    have cH := Lib.hid (cHd.out h0)
    rw [h0] at cR
    have hhm := hdr_max r h0
    obtain ⟨-, -, -, -, -, -, -, a8, a9⟩ := right_rec r h0
    rw [HN.out] at a8
    obtain ⟨TX, hTX⟩ : ∃ T : Nat → List UInt8, ∀ k, T k = hdrR r ++ 10 :: bodyF (r.fields.take k) := ⟨_, fun _ => rfl⟩
    have HFin : RowKit.Hid (TX n ++ [10] = textX r) := by
      unfold RowKit.Hid
      rw [hTX, ← HN.out, List.take_length]
      unfold textX
      simp
    have HFst : RowKit.Hid (S (hdrR r) ++ (⟨#[10]⟩ : ByteArray) = S (TX 0)) := by
      unfold RowKit.Hid
      rw [hTX, show (⟨#[10]⟩ : ByteArray) = S [10] from rfl, S_append]
      rfl
    have hz0 : (S (hdrR r)).size ≤ 100 := by rw [S_size]; exact hhm
    have HLen : RowKit.Hid (∀ k, k ≤ n → (TX k).length ≤ 1300000) := by
      intro k hk
      have := bodyF_max (r.fields.take k) (fun f hf => a9 f (List.mem_of_mem_take hf))
      rw [List.length_take] at this
      rw [hTX, List.length_append, List.length_cons]
      have h4 : 20001 * min k r.fields.length ≤ 20001 * 64 := Nat.mul_le_mul_left _ (by omega)
      omega
    have HNe : RowKit.Hid (∀ k, TX k ≠ []) := by
      intro k
      rw [hTX]
      simp
    have HStep : RowKit.Hid (∀ k, k < n → TX k ++ (lineL (r.fields.getD k fd0) ++ [10]) = TX (k + 1)) := by
      intro k hk
      have hk2 : r.fields[k]? = some (r.fields.getD k fd0) := by
        rw [List.getD_eq_getElem?_getD, List.getElem?_eq_getElem (by rw [HN.out]; exact hk)]
        rfl
      rw [hTX, hTX, bodyF_snoc _ _ _ hk2]
      simp
    have HMem : RowKit.Hid (∀ k, k < n → rightI (r.fields.getD k fd0) = 0) := by
      intro k hk
      refine a9 _ ?_
      rw [List.getD_eq_getElem?_getD, List.getElem?_eq_getElem (by rw [HN.out]; exact hk)]
      exact List.getElem_mem _
    have hmx : n ≤ 64 := a8
    clear hTX hs h0 a9 hhm a8 hmax cHd
    go_enter Tryd.func8, Tryd.ntmps8
    go_upto_region 1 with fail
    rw [HW0.out]
    clear HW0
    obtain ⟨⟨r0, r1, r2, r3, r4⟩, -⟩ := HR.out W0 (Below.refl _ _)
    go_wp2_with fail
    refine (cR.out W0 (HEw.out W0 (Below.refl _ _)) (HUw.out W0 (Below.refl _ _))).mono ?_
    rintro e w1 ⟨rfl, hb1⟩
    have B1 := Lib.hid hb1
    clear hb1 r0 r1 r2 r3 r4 cR
    have hbx := BX.first w1 w1.heap.size (Nat.le_refl _)
    have hbw := (Below.refl w1.heap.size w1).alloc (Nat.le_refl _) (.cells #[.pointer none, .slice none 0 0] 50)
    obtain ⟨W2, hW2⟩ : ∃ W, w1.alloc (.cells #[.pointer none, .slice none 0 0] 50) = W := ⟨_, rfl⟩
    rw [hW2] at hbx hbw
    have HBX := Lib.hid hbx
    have HBW := Lib.hid hbw
    have HW2 := Lib.hid hW2
    have HB1 := Lib.hid (fun W (h : Below w1.heap.size w1 W) => B1.out.trans (h.mono B1.out.size))
    clear hbx hbw hW2
    go_upto_region 5 with fail
    rw [HW2.out]
    clear HW2
    obtain ⟨⟨r0, r1, r2, r3, r4⟩, -⟩ := HR.out W2 (HB1.out W2 HBW.out)
    go_wp2_with fail
    refine (cH.out W2 (HEw.out W2 (HB1.out W2 HBW.out))).mono ?_
    rintro e w3 ⟨rfl, hb3⟩
    have HB3 : RowKit.Hid (Below w1.heap.size w1 w3) := HBW.out.trans (hb3.mono HBW.out.size)
    have HX3 := Lib.hid (HBX.out.after hb3)
    clear hb3 r0 r1 r2 r3 r4 cH HBX HBW
    have cW := writeX w1.heap.size w1.heap.size none [] (TX 0) w3 HX3.out (HNe.out 0) (by have := HLen.out 0 (by omega); simp; omega) HB3.out.size
    rw [← HFst.out, List.nil_append] at cW
    have CW := Lib.hid cW
    clear cW
    have hb9 : ¬ 9223372036854775807 < (S (hdrR r)).size + 1 := by omega
    generalize S (hdrR r) = sh at *
    go_wp2_with fail
    refine CW.out.mono ?_
    rintro e w4 ⟨⟨vv, rfl⟩, oh, hbx4, hwr4, -⟩
    have HB4 : RowKit.Hid (Below w1.heap.size w1 w4) := HB3.out.trans (hwr4.below _ HB3.out.size (Nat.le_refl _) (fun g h => by cases h))
    have HX4 := Lib.hid hbx4
    clear hbx4 hwr4 CW HX3 HB3 HFst hb9 hz0
    obtain ⟨⟨r0, r1, r2, r3, r4⟩, -⟩ := HR.out w4 (HB1.out w4 HB4.out)
    go_wp2
    clear r0 r1 r2 r3 r4
    go_loopw [22] (fun i wr => ∃ (k : Nat) (og : Option Nat), i = .int .i64 (k : Int) ∧ k ≤ n ∧ RowKit.Hid (BX w1.heap.size w1.heap.size og (TX k) wr) ∧ RowKit.Hid (Below w1.heap.size w1 wr)) (fun i _ => n - (intOf i).toNat)
    case atStart => exact ⟨0, oh, rfl, Nat.zero_le _, HX4, HB4⟩
    case round =>
      obtain ⟨k, og, rfl, hk, HX, HB⟩ := hrel
      clear HX4 HB4
      have hl1 := HLen.out k hk
      by_cases hkn : k < n
      · have i1 : (0 : Int) ≤ (k : Int) := by omega
        have i2 : (k : Int) < (n : Int) := by omega
        obtain ⟨g, o, cap', x, he, hg, c0, c1, c2, c3, hq⟩ := (HUw.out wr (HB1.out wr HB.out)).at k (by rw [HN.out]; exact hkn)
        obtain ⟨ha, -, hcp⟩ := Value.slice.inj he
        subst ha hcp
        have hst := HStep.out k hkn
        have hri := HMem.out k hkn
        have hlm := line_max _ hri
        obtain ⟨f, hf⟩ : ∃ f, r.fields.getD k fd0 = f := ⟨_, rfl⟩
        rw [hf] at c0 c1 c3 hq hst hlm hri
        obtain ⟨xa, xc, hxe, -, -⟩ := hq.length
        obtain ⟨xl, hxl⟩ : ∃ m, f.subs.length = m := ⟨_, rfl⟩
        rw [hxl] at hxe
        subst hxe
        have hbx1 := heap_alloc_new wr (.cells #[.string (S f.tag), .string (S f.ind), .slice xa xl xc, .int .i64 f.auth] 43)
        have hbw := (Below.refl wr.heap.size wr).alloc (Nat.le_refl _) (.cells #[.string (S f.tag), .string (S f.ind), .slice xa xl xc, .int .i64 f.auth] 43)
        obtain ⟨z, hz⟩ : ∃ z, wr.alloc (.cells #[.string (S f.tag), .string (S f.ind), .slice xa xl xc, .int .i64 f.auth] 43) = z := ⟨_, rfl⟩
        rw [hz] at hbx1 hbw
        obtain ⟨⟨x0, x1, x2, x3⟩, -⟩ := field_cells hbx1
        have HBz : RowKit.Hid (Below w1.heap.size w1 z) := HB.out.trans (hbw.mono HB.out.size)
        have HXz := Lib.hid (HX.out.after hbw)
        have cP := fPrint_ok f (.slice xa xl xc) z (HEw.out z (HB1.out z HBz.out)) (hq.after hbw) hri
        unfold FV at cP
        have CP := Lib.hid cP
        have HSt := Lib.hid hst
        have HZ := Lib.hid hz
        have HLm := Lib.hid hlm
        have hl2 : (S (lineL f)).size ≤ 20000 := by rw [S_size]; exact hlm
        have HAp := Lib.hid (S_append (lineL f) [10])
        clear he hf hri hlm hq hst hbx1 hz cP hbw hxl
        go_upto_region 9 with fail
        rw [HZ.out]
        clear HZ
        go_wp2_with fail
        refine CP.out.mono ?_
        rintro e w5 ⟨rfl, hb5⟩
        have HB5 : RowKit.Hid (Below w1.heap.size w1 w5) := HBz.out.trans (hb5.mono HBz.out.size)
        have HX5 := Lib.hid (HXz.out.after hb5)
        have HGr := Lib.hid (fun g (h : og = some g) => (HX5.out.row g h).1)
        clear hb5 CP x0 x1 x2 x3 c0 c1 c2 c3 HXz HBz HX
        have cW := writeX w1.heap.size w1.heap.size og (TX k) (lineL f ++ [10]) w5 HX5.out (by simp) (by have := HLm.out; rw [List.length_append]; simp; omega) HB5.out.size
        rw [HSt.out, ← HAp.out] at cW
        have CW := Lib.hid cW
        clear cW
        have hb9 : ¬ 9223372036854775807 < (S (lineL f)).size + 1 := by omega
        generalize S (lineL f) = sl at *
        go_wp2_with fail
        refine CW.out.mono ?_
        rintro e w6 ⟨⟨vv, rfl⟩, oh2, hbx6, hwr6, -⟩
        have HB6 : RowKit.Hid (Below w1.heap.size w1 w6) := HB5.out.trans (hwr6.below _ HB5.out.size (Nat.le_refl _) HGr.out)
        have HX6 := Lib.hid hbx6
        clear hbx6 hwr6 CW HX5 HB5 hb9
        go_wp2
        go_roundw
        case rel => exact ⟨k + 1, oh2, by go_num, by omega, HX6, HB6⟩
        case measure => simp [intOf]; omega
      · obtain rfl : k = n := by omega
        have HGr := Lib.hid (fun g (h : og = some g) => (HX.out.row g h).1)
        have cW := writeX w1.heap.size w1.heap.size og (TX k) [10] wr HX.out (by simp) (by simp; omega) HB.out.size
        rw [HFin.out] at cW
        have CW := Lib.hid cW
        clear cW
        have hl9 : (textX r).length ≤ 1300001 := by
          rw [← HFin.out, List.length_append]
          simp
          omega
        have HL9 := Lib.hid hl9
        clear hl9
        go_wp2_with fail
        refine CW.out.mono ?_
        rintro e w6 ⟨⟨vv, rfl⟩, oh2, hbx6, hwr6, -⟩
        have HB6 : RowKit.Hid (Below w1.heap.size w1 w6) := HB.out.trans (hwr6.below _ HB.out.size (Nat.le_refl _) HGr.out)
        have HX6 := Lib.hid hbx6
        have HGr2 := Lib.hid (fun g (h : oh2 = some g) => (HX6.out.row g h).1)
        have cO := Lib.hid (outX w1.heap.size w1.heap.size oh2 (textX r) w6 HX6.out (by have := HL9.out; omega))
        clear hbx6 hwr6 CW HX HB
        go_wp2_with fail
        refine cO.out.mono ?_
        rintro e w7 ⟨rfl, -, hwr7, -⟩
        have HBf := Lib.hid (HBel.out w7 (HB1.out w7 (HB6.out.trans (hwr7.below _ HB6.out.size (Nat.le_refl _) HGr2.out))))
        clear hwr7
        go_wp2
        first | exact HQ.out _ _ ⟨rfl, HBf.out⟩ | (go_ret2; exact HQ.out _ _ ⟨rfl, HBf.out⟩) | (refine bodyPost_ret (results_tmp2 rfl _ _) rfl ?_; exact HQ.out _ _ ⟨rfl, HBf.out⟩)
  · have hp : prnX r = ([], rightRI r) := by unfold prnX; rw [if_pos h0]
    rw [hp] at hs
    obtain ⟨rfl, rfl⟩ := Prod.mk.inj hs
    generalize rightRI r = er at *
    have t1 : (er != 0) = true := by simpa using h0
    have e0 : S [] = (⟨#[]⟩ : ByteArray) := rfl
    rw [e0] at HQ
    clear hs h0 hp cHd
    go_enter Tryd.func8, Tryd.ntmps8
    go_upto_region 1 with fail
    rw [HW0.out]
    obtain ⟨⟨r0, r1, r2, r3, r4⟩, -⟩ := HR.out W0 (Below.refl _ _)
    go_wp2_with fail
    refine (cR.out W0 (HEw.out W0 (Below.refl _ _)) (HUw.out W0 (Below.refl _ _))).mono ?_
    rintro e w1 ⟨rfl, hb1⟩
    have BF := Lib.hid (HBel.out w1 hb1)
    clear hb1 r0 r1 r2 r3 r4 cR
    go_wp2
    first | exact HQ.out _ _ ⟨rfl, BF.out⟩ | (go_ret2; exact HQ.out _ _ ⟨rfl, BF.out⟩) | (refine bodyPost_ret (results_tmp2 rfl _ _) rfl ?_; exact HQ.out _ _ ⟨rfl, BF.out⟩)
theorem prn_ne (r : Rec) (h : (prnX r).2 = 0) : (prnX r).1 ≠ [] := by
  obtain ⟨h1, h2⟩ := prn_ok r h
  rw [h2]
  have := text_pos r
  intro e
  rw [e] at this
  exact absurd this (by simp)

set_option maxHeartbeats 16000000 in
set_option maxRecDepth 100000 in
theorem pPrintAll_any (L : List Rec) (v : Value) (w : World) (hE : Env w) (hv : RL v L w) (hok : ∀ r ∈ L, r.lang.length ≤ maxLen ∧ okZ r) (s : List UInt8) (er : Int) (hr : prnA L = (s, er)) :
    Calls Tryd.prog 12 #[v] w fun e w' => e = .returned (.tuple #[.string (S s), .int .i64 er]) ∧ Below w.heap.size w w' := by
  obtain ⟨Q, hQ⟩ : ∃ Q, (fun (e : Ending) (w' : World) => e = .returned (.tuple #[.string (S s), .int .i64 er]) ∧ Below w.heap.size w w') = Q := ⟨_, rfl⟩
  rw [hQ]
  have HQ : RowKit.Hid (∀ e w', (e = .returned (.tuple #[.string (S s), .int .i64 er]) ∧ Below w.heap.size w w') → Q e w') := by rw [← hQ]; exact fun _ _ h => h
  clear hQ
  have HV := Lib.hid hv
  have HOk := Lib.hid hok
  obtain ⟨a, cap, rfl, -, hmax⟩ := hv.length
  obtain ⟨n, hn⟩ : ∃ n, L.length = n := ⟨_, rfl⟩
  rw [hn] at HV ⊢
  have HN := Lib.hid hn
  have HE := Lib.hid hE
  clear hv hE hok
  by_cases h64 : 64 < n
  · have t1 : decide ((64 : Int) < (n : Int)) = true := decide_eq_true (by omega)
    unfold prnA at hr
    rw [if_pos (by omega)] at hr
    obtain ⟨rfl, rfl⟩ := Prod.mk.inj hr
    clear hr hn h64
    go_enter Tryd.func12, Tryd.ntmps12
    go_wp2
    exact HQ.out _ _ ⟨rfl, Below.refl _ _⟩
  · have t1 : decide ((64 : Int) < (n : Int)) = false := decide_eq_false (by omega)
    have hn64 : n ≤ 64 := by omega
    rw [prnA_eq L (by omega)] at hr
    have HR := Lib.hid hr
    have HD0 : RowKit.Hid (catL L = catK [] (catL (L.drop 0))) := by
      unfold RowKit.Hid
      rw [List.drop_zero]
      exact catL_nil L
    obtain ⟨W0, hW0⟩ : ∃ W0, w.alloc (.cells #[.pointer none, .slice none 0 0] 50) = W0 := ⟨_, rfl⟩
    have hbx := BX.first w w.heap.size (Nat.le_refl _)
    have hb0 := (Below.refl w.heap.size w).alloc (Nat.le_refl _) (.cells #[.pointer none, .slice none 0 0] 50)
    rw [hW0] at hbx hb0
    have HW0 := Lib.hid hW0
    have HBX := Lib.hid hbx
    have HB0 := Lib.hid hb0
    clear hr hW0 hbx hb0 hn h64
    go_enter Tryd.func12, Tryd.ntmps12
    go_upto_region 4 with fail
    rw [HW0.out]
    go_wp2
    go_loopw [14] (fun i wr => ∃ (k : Nat) (D : List UInt8) (og : Option Nat), i = .int .i64 (k : Int) ∧ k ≤ n ∧ D.length ≤ 1300000 * k ∧
      RowKit.Hid (catL L = catK D (catL (L.drop k))) ∧ RowKit.Hid (BX w.heap.size w.heap.size og D wr) ∧ RowKit.Hid (Below w.heap.size w wr)) (fun i _ => n - (intOf i).toNat)
    case atStart => exact ⟨0, [], none, rfl, Nat.zero_le _, by simp, HD0, HBX, HB0⟩
    case round =>
      obtain ⟨k, D, og, rfl, hk, hDl, HD, HX, HB⟩ := hrel
      clear HD0
      by_cases hkn : k < n
      · have i1 : (0 : Int) ≤ (k : Int) := by omega
        have i2 : (k : Int) < (n : Int) := by omega
        obtain ⟨g, o, cap', u, he, hg, c0, c1, c2, c3, c4, hq⟩ := (HV.out.after HB.out).at k (by rw [HN.out]; exact hkn)
        obtain ⟨ha, -, hcp⟩ := Value.slice.inj he
        subst ha hcp
        have hLk : L[k]? = some (L.getD k rec0) := by
          rw [List.getD_eq_getElem?_getD, List.getElem?_eq_getElem (by rw [HN.out]; exact hkn)]
          rfl
        have hokr := HOk.out _ (List.mem_of_getElem? hLk)
        have HStep := Lib.hid (catL_step L k _ hLk)
        obtain ⟨r, hre⟩ : ∃ r, L.getD k rec0 = r := ⟨_, rfl⟩
        rw [hre] at c0 c1 c2 c3 hq HStep hokr
        obtain ⟨ua, uc, hue, -, -⟩ := hq.length
        obtain ⟨ul, hul⟩ : ∃ m, r.fields.length = m := ⟨_, rfl⟩
        rw [hul] at hue
        subst hue
        have hbx1 := heap_alloc_new wr (.cells #[.int .i64 r.id, .int .i64 r.ver, .int .i64 r.kind, .string (S r.lang), .slice ua ul uc] 24)
        have hbw := (Below.refl wr.heap.size wr).alloc (Nat.le_refl _) (.cells #[.int .i64 r.id, .int .i64 r.ver, .int .i64 r.kind, .string (S r.lang), .slice ua ul uc] 24)
        obtain ⟨z, hz⟩ : ∃ z, wr.alloc (.cells #[.int .i64 r.id, .int .i64 r.ver, .int .i64 r.kind, .string (S r.lang), .slice ua ul uc] 24) = z := ⟨_, rfl⟩
        rw [hz] at hbx1 hbw
        obtain ⟨⟨x0, x1, x2, x3, x4⟩, -⟩ := rcells hbx1
        have HBz : RowKit.Hid (Below w.heap.size w z) := HB.out.trans (hbw.mono HB.out.size)
        have HXz := Lib.hid (HX.out.after hbw)
        obtain ⟨es, ee, hee⟩ : ∃ es ee, prnX r = (es, ee) := ⟨_, _, rfl⟩
        have cE := pPrint11_any r (.slice ua ul uc) z (HE.out.after HBz.out) (hq.after hbw) hokr.1 hokr.2 es ee hee
        unfold RV at cE
        have hel := prnX_le r
        have HNe := Lib.hid (prn_ne r)
        rw [hee] at HStep hel HNe
        simp only at HStep hel HNe
        have CE := Lib.hid cE
        have HZ := Lib.hid hz
        have hbs := hbw.size
        clear he hLk hokr hre hq hul hbx1 hbw hz cE hee
        go_wp2_with fail
        rw [HZ.out]
        go_wp2_with fail
        refine CE.out.mono ?_
        rintro e w2 ⟨rfl, hb2⟩
        have HB2 : RowKit.Hid (Below w.heap.size w w2) := HBz.out.trans (hb2.mono HBz.out.size)
        have HX2 := Lib.hid (HXz.out.after hb2)
        clear hb2 x0 x1 x2 x3 x4 c0 c1 c2 c3 c4
        by_cases h0 : ee = 0
        · subst h0
          have HS2 : RowKit.Hid (catL L = catK (D ++ es) (catL (L.drop (k + 1)))) := by
            unfold RowKit.Hid
            have := HStep.out
            rw [if_neg (fun h => h rfl)] at this
            rw [HD.out, this, catK_cat]
          have hlen : (D ++ es).length ≤ 1300000 * (k + 1) := by rw [List.length_append]; omega
          have cW := Lib.hid (writeX w.heap.size w.heap.size og D es w2 HX2.out (HNe.out rfl) (by omega) HB2.out.size)
          have HGr := Lib.hid (fun g (h : og = some g) => (HX2.out.row g h).1)
          clear HStep HNe
          go_wp2_with fail
          refine cW.out.mono ?_
          rintro e w3 ⟨⟨vv, rfl⟩, oh, hbx3, hwr, -⟩
          have HB3 : RowKit.Hid (Below w.heap.size w w3) := HB2.out.trans (hwr.below _ HB2.out.size (Nat.le_refl _) HGr.out)
          have HX3 := Lib.hid hbx3
          clear hbx3 hwr cW HX2 HB2
          go_wp2
          go_roundw
          case rel => exact ⟨k + 1, D ++ es, oh, by go_num, by omega, hlen, HS2, HX3, HB3⟩
          case measure => simp [intOf]; omega
        · have hL : (s, er) = (([] : List UInt8), ee) := by
            rw [← HR.out, HD.out, HStep.out, if_pos h0]
            unfold catK
            simp [h0]
          obtain ⟨rfl, rfl⟩ := Prod.mk.inj hL
          have t0 : (er != 0) = true := by simpa using h0
          clear hL HStep HNe
          go_wp2
          (try refine bodyPost_ret (results_tmp2 rfl _ _ _) rfl ?_)
          exact HQ.out _ _ ⟨rfl, HB2.out⟩
      · obtain rfl : k = n := by omega
        have hC : catL L = (D, 0) := by
          rw [HD.out, List.drop_of_length_le (by rw [HN.out]; exact Nat.le_refl _)]
          simp [catL, catK]
        have hr2 := HR.out
        rw [hC] at hr2
        simp only at hr2
        rw [if_neg (fun h => h rfl)] at hr2
        have cL := Lib.hid (lenX w.heap.size w.heap.size og D wr HX.out)
        obtain ⟨dl, hdl⟩ : ∃ m, D.length = m := ⟨_, rfl⟩
        rw [hdl] at cL hDl hr2
        by_cases h6 : 65536 < dl
        · rw [if_pos h6] at hr2
          obtain ⟨rfl, rfl⟩ := Prod.mk.inj hr2
          have t6 : decide ((65536 : Int) < (dl : Int)) = true := decide_eq_true (by omega)
          clear hr2 hC HD HR hdl
          go_wp2_with fail
          refine cL.out.mono ?_
          rintro e w1 ⟨rfl, hw1⟩
          rw [hw1]
          clear hw1
          go_wp2
          (try refine bodyPost_ret (results_tmp2 rfl _ _ _) rfl ?_)
          exact HQ.out _ _ ⟨rfl, HB.out⟩
        · rw [if_neg h6] at hr2
          obtain ⟨rfl, rfl⟩ := Prod.mk.inj hr2
          have t6 : decide ((65536 : Int) < (dl : Int)) = false := decide_eq_false (by omega)
          have cO := Lib.hid (outX w.heap.size w.heap.size og D wr HX.out (by omega))
          have HGr := Lib.hid (fun g (h : og = some g) => (HX.out.row g h).1)
          clear hr2 hC HD HR hdl
          go_wp2_with fail
          refine cL.out.mono ?_
          rintro e w1 ⟨rfl, hw1⟩
          rw [hw1]
          clear hw1
          go_wp2_with fail
          refine cO.out.mono ?_
          rintro e w1 ⟨rfl, -, hwr, -⟩
          have HBf := Lib.hid (HB.out.trans (hwr.below _ HB.out.size (Nat.le_refl _) HGr.out))
          clear hwr
          go_wp2
          (try refine bodyPost_ret (results_tmp2 rfl _ _ _) rfl ?_)
          exact HQ.out _ _ ⟨rfl, HBf.out⟩
end

section
open Go.RowKit Go.PlainAid
theorem cellsL_length : ∀ L : List Sub, (cellsL L).length = L.length * 2
  | [] => rfl
  | s :: t => by
    have := cellsL_length t
    show (encS s ++ cellsL t).length = _
    rw [List.length_append, this, List.length_cons]
    simp only [encS, List.length_cons, List.length_nil]
    omega
theorem cellsL_one (L : List Sub) : ∀ u ∈ cellsL L, u.oneCell' = true := by
  intro u hu
  unfold cellsL at hu
  rw [List.mem_flatMap] at hu
  obtain ⟨s, _, hs⟩ := hu
  simp only [encS, List.mem_cons, List.not_mem_nil, or_false] at hs
  rcases hs with rfl | rfl <;> rfl
theorem QL.at {a : Addr} {n cap : Nat} {L : List Sub} {w : World} (h : QL (.slice (some a) n cap) L w) : ∀ j u, (cellsL L)[j]? = some u → w.cell? (a.add j) = some u := by
  obtain ⟨ao, cap', he, hc, hm, hn, hx⟩ := h
  simp only [Value.slice.injEq] at he
  obtain ⟨rfl, rfl, rfl⟩ := he
  intro j u hj
  have hlt : j < L.length * 2 := by
    have := (List.getElem?_eq_some_iff.1 hj).1
    rwa [cellsL_length] at this
  obtain ⟨g, o, he, hg, c1, c2⟩ := hx (j / 2) (by omega)
  obtain rfl := Option.some.inj he
  have hat := cellsL_at L (j / 2) (by omega)
  have hadd : (⟨g, o, none⟩ : Addr).add j = ⟨g, o + j, none⟩ := by unfold Addr.add; split <;> simp_all
  rw [hadd]
  rcases Nat.mod_two_eq_zero_or_one j with h | h
  · rw [show j = j / 2 * 2 by omega] at hj ⊢
    rw [hat.1] at hj
    rw [c1]
    exact hj
  · rw [show j = j / 2 * 2 + 1 by omega] at hj ⊢
    rw [hat.2] at hj
    rw [show o + (j / 2 * 2 + 1) = o + j / 2 * 2 + 1 by omega, c2]
    exact hj

theorem own_set {w : World} {B e size n g cap p : Nat} {xs : List Value} (h : w.ownsRow B e size (.slice (some ⟨g, 0, none⟩) n cap) n xs) (x : Value) :
    (w.setCell ⟨g, p, none⟩ x).ownsRow B e size (.slice (some ⟨g, 0, none⟩) n cap) n (xs.set p x) := by
  refine ⟨by rw [List.length_set]; exact h.1, ?_⟩
  rcases h.2 with ⟨h0, _⟩ | ⟨g', cap', cur, hv, hb, hg, hc, hm, hs, ht⟩
  · cases h0
  · simp only [Value.slice.injEq, Option.some.injEq, Addr.mk.injEq] at hv
    obtain ⟨⟨rfl, _⟩, _, rfl⟩ := hv
    refine .inr ⟨g, cap, cur.setIfInBounds p x, rfl, hb, ?_, hc, hm, by simpa using hs, ?_⟩
    · simp [World.setCell, Array.getElem?_modify, hg]
    · rw [Array.toList_setIfInBounds, List.take_set, ht]
theorem own_shrink {w : World} {B e size n i g cap : Nat} {xs : List Value} (h : w.ownsRow B e size (.slice (some ⟨g, 0, none⟩) n cap) n xs) (hi : i ≤ n) :
    w.ownsRow B e size (.slice (some ⟨g, 0, none⟩) i cap) i (xs.take (i * size)) := by
  have hle : i * size ≤ n * size := Nat.mul_le_mul_right _ hi
  refine ⟨by rw [List.length_take, h.1]; omega, ?_⟩
  rcases h.2 with ⟨h0, _⟩ | ⟨g', cap', cur, hv, hb, hg, hc, hm, hs, ht⟩
  · cases h0
  · simp only [Value.slice.injEq, Option.some.injEq, Addr.mk.injEq] at hv
    obtain ⟨⟨rfl, _⟩, _, rfl⟩ := hv
    refine .inr ⟨g, cap, cur, rfl, hb, hg, Nat.le_trans hi hc, hm, hs, ?_⟩
    rw [← ht, List.take_take, Nat.min_eq_left hle]
theorem own_setCells {B e size n g cap : Nat} : ∀ (zs : List Value) (o : Nat) (w : World) (xs : List Value), w.ownsRow B e size (.slice (some ⟨g, 0, none⟩) n cap) n xs → o + zs.length ≤ n * size →
    ∃ ys, (w.setCells g o zs).ownsRow B e size (.slice (some ⟨g, 0, none⟩) n cap) n ys ∧ ys.take o = xs.take o
  | [], o, w, xs, h, _ => ⟨xs, h, rfl⟩
  | z :: zs, o, w, xs, h, hl => by
    simp only [List.length_cons] at hl
    obtain ⟨ys, h1, h2⟩ := own_setCells zs (o + 1) (w.setCell ⟨g, o, none⟩ z) (xs.set o z) (own_set h z) (by omega)
    refine ⟨ys, h1, ?_⟩
    have h3 := congrArg (List.take o) h2
    rw [List.take_take, List.take_take, Nat.min_eq_left (by omega)] at h3
    rw [h3, List.take_set, List.set_eq_of_length_le (by rw [List.length_take]; omega)]
theorem setCells_below {B g : Nat} (hB : B ≤ g) : ∀ (zs : List Value) (o : Nat) (a w : World), Below B a w → Below B a (w.setCells g o zs)
  | [], _, _, _, h => h
  | z :: zs, o, a, w, h => setCells_below hB zs (o + 1) a (w.setCell ⟨g, o, none⟩ z) (h.setCell (p := ⟨g, o, none⟩) hB z)
theorem own_facts {w : World} {B e size n g cap : Nat} {xs : List Value} (h : w.ownsRow B e size (.slice (some ⟨g, 0, none⟩) n cap) n xs) :
    B ≤ g ∧ g < w.heap.size ∧ n ≤ cap ∧ cap ≤ maxLen ∧ (∀ p, w.frozen? ⟨g, p, none⟩ = false) ∧ (∀ p, p < n * size → (w.cell? ⟨g, p, none⟩).isSome = true) := by
  rcases h.2 with ⟨h0, _⟩ | ⟨g', cap', cur, hv, hb, hg, hc, hm, hs, ht⟩
  · cases h0
  · simp only [Value.slice.injEq, Option.some.injEq, Addr.mk.injEq] at hv
    obtain ⟨⟨rfl, _⟩, _, rfl⟩ := hv
    refine ⟨hb, (Array.getElem?_eq_some_iff.1 hg).1, hc, hm, fun p => Lib.frozen_of_heap hg p, fun p hp => ?_⟩
    have hle : n * size ≤ cap * size := Nat.mul_le_mul_right _ hc
    rw [Lib.cell_of_heap hg]
    have : p < cur.size := by omega
    simp [this]
/-- clear of a part of a row of subfields. -/
theorem run_clear (w : World) (b o n c : Nat) (hn : 0 < n) (hc : ∀ j, j < n * 2 → (w.cell? ⟨b, o + j, none⟩).isSome = true) (hf : ∀ j, j < n * 2 → w.frozen? ⟨b, o + j, none⟩ = false) :
    ∃ zs : List Value, zs.length = n * 2 ∧ ∀ ty, (Builtin.clear_ #[41] ty #[.slice (some ⟨b, o, none⟩) n c]).run Tryd.prog w = .ok (.tuple #[]) (w.setCells b o zs) := by
  obtain ⟨zs, hzs⟩ : ∃ zs, (Builtin.zeroCells #[.int .u8 0, .string ⟨#[]⟩] n).toList = zs := ⟨_, rfl⟩
  have hl : zs.length = n * 2 := by rw [← hzs]; simp [Builtin.zeroCells]
  have hone : ∀ v ∈ zs, v.oneCell' = true := by
    intro v hv
    rw [← hzs] at hv
    simp only [Builtin.zeroCells, Array.toList_map, Array.toList_range, List.mem_map] at hv
    obtain ⟨i, _, rfl⟩ := hv
    have : i % (#[Value.int .u8 0, Value.string ⟨#[]⟩] : Array Value).size = 0 ∨ i % (#[Value.int .u8 0, Value.string ⟨#[]⟩] : Array Value).size = 1 := Nat.mod_two_eq_zero_or_one i
    rcases this with h | h <;> rw [h] <;> rfl
  refine ⟨zs, hl, fun ty => ?_⟩
  have hst := run_storeCells_cells (P := Tryd.prog) b o zs 0 w (by simpa [hl] using hc) (by simpa [hl] using hf) hone
  simp only [Nat.add_zero] at hst
  obtain ⟨m, rfl⟩ : ∃ m, n = m + 1 := ⟨n - 1, by omega⟩
  have hv : ∀ w, (zeroValue 45).run Tryd.prog w = .ok (.agg #[.int .u8 0, .string ⟨#[]⟩]) w := fun w => by kernel_rfl
  have hcells : (Value.agg #[.int .u8 0, .string ⟨#[]⟩]).cells = #[.int .u8 0, .string ⟨#[]⟩] := by rfl
  simp [Builtin.clear_, run_underlying Tryd.underlying41, hv, hcells, hzs, hst]

/-! What DeleteFunc keeps. -/
def keepL (c : UInt8) (L : List Sub) : List Sub := L.filter fun s => decide (s.1 ≠ c)
theorem keepL_all (c : UInt8) (L : List Sub) (h : ∀ j, j < L.length → (L.getD j sub0).1 ≠ c) : keepL c L = L := by
  unfold keepL
  rw [List.filter_eq_self]
  intro s hs
  obtain ⟨j, hj, rfl⟩ := List.getElem_of_mem hs
  have := h j hj
  rw [List.getD_eq_getElem?_getD, List.getElem?_eq_getElem hj] at this
  simpa using this
theorem take_snoc (L : List Sub) (j : Nat) (h : j < L.length) : L.take (j + 1) = L.take j ++ [L.getD j sub0] := by
  rw [List.take_succ_eq_append_getElem h, List.getD_eq_getElem?_getD, List.getElem?_eq_getElem h]
  rfl
theorem keepL_snoc (c : UInt8) (L : List Sub) (j : Nat) (h : j < L.length) : keepL c (L.take (j + 1)) = keepL c (L.take j) ++ (if (L.getD j sub0).1 ≠ c then [L.getD j sub0] else []) := by
  rw [take_snoc L j h]
  unfold keepL
  rw [List.filter_append]
  congr 1
  generalize L.getD j sub0 = x
  by_cases hc : x.1 ≠ c
  · rw [if_pos hc]; simp [hc]
  · rw [if_neg hc]; simp [Decidable.not_not.1 hc]
/-- The row, in which i of the first j subfields are kept. -/
structure KI (c : UInt8) (L : List Sub) (i j : Nat) (M : List Sub) : Prop where
  len : M.length = L.length
  le : j ≤ L.length
  lt : i < j
  low : M.take i = keepL c (L.take j)
  high : ∀ p, j ≤ p → p < L.length → M.getD p sub0 = L.getD p sub0
theorem KI.start (c : UInt8) (L : List Sub) (k : Nat) (hk : k < L.length) (hj : ∀ j, j < k → (L.getD j sub0).1 ≠ c) (he : (L.getD k sub0).1 = c) : KI c L k (k + 1) L := by
  refine ⟨rfl, hk, Nat.lt_succ_self k, ?_, fun _ _ _ => rfl⟩
  rw [keepL_snoc c L k hk, if_neg (fun h => h he), List.append_nil]
  symm
  refine keepL_all c _ (fun j hj' => ?_)
  rw [List.length_take] at hj'
  have := hj j (by omega)
  rwa [List.getD_eq_getElem?_getD, List.getElem?_take_of_lt (by omega), ← List.getD_eq_getElem?_getD]
theorem KI.skip {c : UInt8} {L M : List Sub} {i j : Nat} (h : KI c L i j M) (hj : j < L.length) (he : (L.getD j sub0).1 = c) : KI c L i (j + 1) M := by
  refine ⟨h.len, hj, Nat.lt_succ_of_lt h.lt, ?_, fun p hp hl => h.high p (by omega) hl⟩
  rw [keepL_snoc c L j hj, if_neg (fun h => h he), List.append_nil, h.low]
theorem KI.keep {c : UInt8} {L M : List Sub} {i j : Nat} (h : KI c L i j M) (hj : j < L.length) (he : (L.getD j sub0).1 ≠ c) : KI c L (i + 1) (j + 1) (M.set i (L.getD j sub0)) := by
  have hi := h.lt
  have hil : i < M.length := by rw [h.len]; omega
  refine ⟨by rw [List.length_set, h.len], hj, by omega, ?_, fun p hp hl => ?_⟩
  · rw [keepL_snoc c L j hj, if_pos he, ← h.low]
    have e : (M.set i (L.getD j sub0)).take (i + 1) = (M.set i (L.getD j sub0)).take i ++ [(M.set i (L.getD j sub0)).getD i sub0] := take_snoc _ i (by rw [List.length_set]; exact hil)
    rw [e, List.take_set, List.set_eq_of_length_le (by rw [List.length_take]; omega)]
    congr 1
    rw [List.getD_eq_getElem?_getD, List.getElem?_set_self hil]
    rfl
  · have := h.high p (by omega) hl
    rw [List.getD_eq_getElem?_getD] at this ⊢
    rw [List.getElem?_set_ne (by omega)]
    exact this
theorem cellsL_set : ∀ (M : List Sub) (i : Nat) (s : Sub), i < M.length → cellsL (M.set i s) = ((cellsL M).set (i * 2) (.int .u8 (s.1.toNat : Int))).set (i * 2 + 1) (.string (S s.2))
  | [], _, _, h => by cases h
  | x :: t, 0, s, _ => rfl
  | x :: t, i + 1, s, h => by
    have ih := cellsL_set t i s (by simpa using h)
    have e : cellsL (x :: t) = .int .u8 (x.1.toNat : Int) :: .string (S x.2) :: cellsL t := rfl
    show cellsL (x :: t.set i s) = _
    have e2 : cellsL (x :: t.set i s) = .int .u8 (x.1.toNat : Int) :: .string (S x.2) :: cellsL (t.set i s) := rfl
    rw [e2, ih, e, show (i + 1) * 2 = i * 2 + 1 + 1 by omega]
    rfl
theorem cellsL_take : ∀ (M : List Sub) (i : Nat), (cellsL M).take (i * 2) = cellsL (M.take i)
  | [], i => by simp [cellsL]
  | x :: t, 0 => by simp [cellsL]
  | x :: t, i + 1 => by
    have ih := cellsL_take t i
    have e : cellsL (x :: t) = .int .u8 (x.1.toNat : Int) :: .string (S x.2) :: cellsL t := rfl
    have e2 : cellsL (x :: t.take i) = .int .u8 (x.1.toNat : Int) :: .string (S x.2) :: cellsL (t.take i) := rfl
    rw [List.take_succ_cons, e2, ← ih, e, show (i + 1) * 2 = i * 2 + 1 + 1 by omega]
    rfl
end

section
section
open Go.RowKit Go.PlainAid
theorem drop_cons (l : List UInt8) (i : Nat) (h : i < l.length) : l.drop i = l.getD i 0 :: l.drop (i + 1) := by
  rw [List.getD_eq_getElem?_getD, List.getElem?_eq_getElem h]
  exact List.drop_eq_getElem_cons h
theorem vlen_cases (l : List UInt8) (i : Nat) (h : i < l.length) :
    (Lib.hasPrefix (l.drop i) [36, 36] = true ∧ i + 2 ≤ l.length ∧ vlen (l.drop i) = vlen (l.drop (i + 2)) + 2) ∨
    (Lib.hasPrefix (l.drop i) [36, 36] = false ∧ Lib.hasPrefix (l.drop i) [36] = true ∧ vlen (l.drop i) = 0) ∨
    (Lib.hasPrefix (l.drop i) [36, 36] = false ∧ Lib.hasPrefix (l.drop i) [36] = false ∧ vlen (l.drop i) = vlen (l.drop (i + 1)) + 1) := by
  have p1 : ∀ (x : UInt8) (t : List UInt8), Lib.hasPrefix (x :: t) [36] = decide (x = 36) := fun x t => one_prefix 36 x t
  rw [drop_cons l i h]
  by_cases hx : l.getD i 0 = 36
  · rw [hx]
    by_cases h1 : i + 1 < l.length
    · rw [show i + 2 = i + 1 + 1 from rfl, drop_cons l (i + 1) h1]
      by_cases hy : l.getD (i + 1) 0 = 36
      · rw [hy]
        exact .inl ⟨by simp [Lib.hasPrefix], by omega, vlen_two _⟩
      · refine .inr (.inl ⟨?_, by rw [p1]; simp, vlen_end _ (.inr (.inr ⟨_, _, rfl, hy⟩))⟩)
        show ((36 : UInt8) == 36 && ((36 : UInt8) == l.getD (i + 1) 0 && _)) = false
        rw [beq_eq_false_iff_ne.2 (fun e => hy e.symm)]
        simp
    · rw [List.drop_eq_nil_of_le (by omega)]
      exact .inr (.inl ⟨by simp [Lib.hasPrefix], by rw [p1]; simp, vlen_end _ (.inr (.inl rfl))⟩)
  · exact .inr (.inr ⟨two_36 _ _ hx, (p1 _ _).trans (decide_eq_false hx), vlen_other _ _ hx⟩)

set_option maxHeartbeats 8000000 in
theorem vlen_any (l : List UInt8) (hz : l.length ≤ 1000000) (r : Nat) (hr : vlen l = r) (w : World) :
    Calls Tryd.prog 77 #[.string (S l)] w fun e w' => e = .returned (.int .i64 (r : Int)) ∧ w' = w := by
  obtain ⟨n, hn⟩ : ∃ n, l.length = n := ⟨_, rfl⟩
  have hsz : (S l).size = n := by rw [S_size, hn]
  have hex : ∀ i, (S l).extract i n = S (l.drop i) := fun i => by rw [S_extract, ← hn, List.take_length]
  have HEx := Lib.hid hex
  have HC := Lib.hid (vlen_cases l)
  have H0 : RowKit.Hid (0 + vlen (l.drop 0) = r) := by
    unfold RowKit.Hid
    rw [List.drop_zero, hr, Nat.zero_add]
  have cP := Lib.hid (fun i p b hb W => cPrefix (l.drop i) p b hb W)
  have HN := Lib.hid hn
  rw [hn] at hz
  clear hex hn hr
  generalize hs : S l = s at *
  clear hs
  go_enter Tryd.func77, Tryd.ntmps77
  go_wp2
  go_loopw [3] (fun i wr => ∃ k : Nat, k ≤ n ∧ i = .int .i64 (k : Int) ∧ RowKit.Hid (k + vlen (l.drop k) = r) ∧ w = wr) (fun i _ => n - (intOf i).toNat)
  case atStart => exact ⟨0, Nat.zero_le _, rfl, H0, rfl⟩
  case round =>
    obtain ⟨k, hk, rfl, HV, rfl⟩ := hrel
    by_cases hkn : k < n
    · have hki : (k : Int) < (n : Int) := by omega
      have i1 : (0 : Int) ≤ (k : Int) := by omega
      have i2 : (k : Int) ≤ (n : Int) := by omega
      rcases HC.out k (by rw [HN.out]; exact hkn) with ⟨h2, hle, hv⟩ | ⟨h2, h1, hv⟩ | ⟨h2, h1, hv⟩
      · have hc := cP.out k [36, 36] true h2 w
        rw [← HEx.out k] at hc
        have HV2 : RowKit.Hid (k + 2 + vlen (l.drop (k + 2)) = r) := by
          have := HV.out
          unfold RowKit.Hid
          omega
        have hle2 : k + 2 ≤ n := by rw [← HN.out]; exact hle
        clear h2 hv hle
        go_wp2_with fail
        refine hc.mono ?_
        rintro e w1 ⟨rfl, rfl⟩
        go_wp2
        go_roundw
        case rel => exact ⟨k + 2, hle2, by go_num, HV2, trivial⟩
        case measure => simp [intOf]; omega
      · have hc := cP.out k [36, 36] false h2 w
        have hc1 := cP.out k [36] true h1 w
        rw [← HEx.out k] at hc hc1
        obtain rfl : k = r := by have := HV.out; omega
        clear h2 h1 hv
        go_wp2_with fail
        refine hc.mono ?_
        rintro e w1 ⟨rfl, hw1⟩
        rw [hw1]
        clear hw1 w1
        go_wp2_with fail
        refine hc1.mono ?_
        rintro e w1 ⟨rfl, rfl⟩
        go_wp2
        go_ret
        exact ⟨rfl, rfl⟩
      · have hc := cP.out k [36, 36] false h2 w
        have hc1 := cP.out k [36] false h1 w
        rw [← HEx.out k] at hc hc1
        have HV2 : RowKit.Hid (k + 1 + vlen (l.drop (k + 1)) = r) := by
          have := HV.out
          unfold RowKit.Hid
          omega
        clear h2 h1 hv
        go_wp2_with fail
        refine hc.mono ?_
        rintro e w1 ⟨rfl, hw1⟩
        rw [hw1]
        clear hw1 w1
        go_wp2_with fail
        refine hc1.mono ?_
        rintro e w1 ⟨rfl, rfl⟩
        go_wp2
        go_roundw
        case rel => exact ⟨k + 1, by omega, by go_num, HV2, trivial⟩
        case measure => simp [intOf]; omega
    · obtain rfl : k = n := by omega
      obtain rfl : r = k := by
        have := HV.out
        rw [List.drop_eq_nil_of_le (by rw [HN.out]; exact Nat.le_refl _)] at this
        exact this.symm
      go_wp2
      go_ret
      exact ⟨rfl, rfl⟩

theorem halveK_le : ∀ (m : Nat) (l : List UInt8), l.length ≤ m → (Lib.replaceK [36, 36] [36] (Lib.count l [36, 36]) l).length ≤ l.length
  | _, [], _ => by rw [rep_nil _ _ (by simp)]; exact Nat.le_refl _
  | 0, _ :: _, h => by simp at h
  | m + 1, x :: t, h => by
    cases hp : [36, 36].isPrefixOf (x :: t) with
    | true =>
      rw [rep_hit [36, 36] [36] (x :: t) (by simp) hp]
      cases t with
      | nil => simp at hp
      | cons y r =>
        have := halveK_le m r (by simp only [List.length_cons] at h; omega)
        show ([36] ++ Lib.replaceK [36, 36] [36] (Lib.count r [36, 36]) r).length ≤ _
        simp only [List.length_append, List.length_cons, List.length_nil]
        omega
    | false =>
      rw [rep_miss [36, 36] [36] t x (by simp) hp]
      have := halveK_le m t (by simp only [List.length_cons] at h; omega)
      simp only [List.length_cons]
      omega
theorem halve_le (l : List UInt8) : (halveL l).length ≤ l.length := by
  unfold halveL
  rw [rep_all _ _ _ (by simp)]
  exact halveK_le l.length l (Nat.le_refl _)
theorem subsK_le : ∀ (k : Nat) (l : List UInt8), (subsK k l).length ≤ k ∧ ∀ i, i < (subsK k l).length → ((subsK k l).getD i sub0).2.length ≤ l.length
  | 0, _ => ⟨Nat.le_refl _, fun i hi => by cases hi⟩
  | k + 1, [] => ⟨by simp [subsK], fun i hi => by cases hi⟩
  | k + 1, [_] => ⟨by simp [subsK], fun i hi => by cases hi⟩
  | k + 1, a :: c :: r => by
    obtain ⟨h1, h2⟩ := subsK_le k (r.drop (vlen r))
    have e : subsK (k + 1) (a :: c :: r) = (c, halveL (r.take (vlen r))) :: subsK k (r.drop (vlen r)) := rfl
    rw [e]
    refine ⟨by simp; omega, fun i hi => ?_⟩
    cases i with
    | zero =>
      have := halve_le (r.take (vlen r))
      rw [List.length_take] at this
      show (halveL (r.take (vlen r))).length ≤ _
      simp only [List.length_cons]
      omega
    | succ i =>
      have := h2 i (by simpa using hi)
      rw [List.length_drop] at this
      show ((subsK k (r.drop (vlen r))).getD i sub0).2.length ≤ _
      simp only [List.length_cons]
      omega
end

section
open Go.RowKit Go.PlainAid
theorem subsK_short (k : Nat) (l : List UInt8) (h : l.length ≤ 1) : subsK k l = [] := by
  match k, l, h with
  | 0, _, _ => rfl
  | _ + 1, [], _ => rfl
  | _ + 1, [_], _ => rfl

set_option maxHeartbeats 16000000 in
set_option maxRecDepth 100000 in
theorem readSubs_any (l : List UInt8) (hz : l.length ≤ 1000000) (w : World) (hE : Env w) :
    Calls Tryd.prog 58 #[.string (S l)] w fun e w' => ∃ v, e = .returned v ∧ w'.ownsRow w.heap.size 45 2 v (subsK 17 l).length (cellsL (subsK 17 l)) ∧ Below w.heap.size w w' := by
  obtain ⟨i0, hi, hz0, hz1, hz2⟩ := info_sub
  have HZ0 := Lib.hid hz0
  have HZ1 := Lib.hid hz1
  have HZ2 := Lib.hid hz2
  have HI := Lib.hid hi
  clear hi hz0 hz1 hz2
  have HE := Lib.hid (fun W (h : Below w.heap.size w W) => hE.after h)
  obtain ⟨R, hR⟩ : ∃ R, subsK 17 l = R := ⟨_, rfl⟩
  have HR := Lib.hid hR
  rw [hR]
  clear hR hE
  go_enter Tryd.func58, Tryd.ntmps58
  go_wp2
  go_loopw [0, 3] (fun s0 s3 wr => ∃ (rem : List UInt8) (k : Nat) (done : List Sub), s0 = .string (S rem) ∧ rem.length ≤ 1000000 ∧ RowKit.Hid (done ++ subsK k rem = R) ∧ done.length + k = 17 ∧ wr.ownsRow w.heap.size 45 2 s3 done.length (cellsL done) ∧ Below w.heap.size w wr) (fun s0 _ _ => strL s0)
  case atStart => exact ⟨l, 17, [], rfl, hz, HR.out, rfl, World.ownsRow_nil _ _ _ _, Below.refl _ _⟩
  case round =>
    obtain ⟨rem, k, done, rfl, hrz, HD, hk, hown, hbw⟩ := hrel
    obtain ⟨ao, cp, rfl⟩ := own_form hown
    have hrs := S_size rem
    have hsz := hbw.size
    obtain ⟨d, hd⟩ : ∃ d, done.length = d := ⟨_, rfl⟩
    by_cases h1 : rem.length ≤ 1
    · have hR := HD.out
      rw [subsK_short k rem h1, List.append_nil] at hR
      have d1 : decide ((1 : Int) < (rem.length : Int)) = false := decide_eq_false (by omega)
      rw [hR] at hown ⊢
      have HOwn := Lib.hid hown
      have Hbw := Lib.hid hbw
      clear hR HD hown hbw h1 hd hk
      generalize rem.length = m at *
      go_wp2
      go_ret
      exact ⟨_, rfl, HOwn.out, Hbw.out⟩
    have d1 : decide ((1 : Int) < (rem.length : Int)) = true := decide_eq_true (by omega)
    by_cases h17 : k = 0
    · subst h17
      have hR := HD.out
      rw [show subsK 0 rem = [] from rfl, List.append_nil] at hR
      rw [hR] at hown hk hd ⊢
      have d2 : decide ((R.length : Int) ≤ 16) = false := decide_eq_false (by omega)
      have HOwn := Lib.hid hown
      have Hbw := Lib.hid hbw
      clear hR HD hown hbw h1 hd hk
      generalize rem.length = m at *
      go_wp2
      go_ret
      exact ⟨_, rfl, HOwn.out, Hbw.out⟩
    obtain ⟨k', rfl⟩ : ∃ k', k = k' + 1 := ⟨k - 1, by omega⟩
    match rem, h1, hrz, HD, hrs, d1 with
    | c0 :: c1 :: r, _, hrz, HD, hrs, d1 =>
      have d2 : decide ((d : Int) ≤ 16) = true := decide_eq_true (by omega)
      have hsub : subsK (k' + 1) (c0 :: c1 :: r) = (c1, halveL (r.take (vlen r))) :: subsK k' (r.drop (vlen r)) := rfl
      have HD2 : RowKit.Hid ((done ++ [(c1, halveL (r.take (vlen r)))]) ++ subsK k' (r.drop (vlen r)) = R) := by
        unfold RowKit.Hid
        rw [← HD.out, hsub]
        simp
      have hvl := vlen_le r
      have hrl : r.length ≤ 1000000 := by simp only [List.length_cons] at hrz; omega
      have hhl := halve_le (r.take (vlen r))
      rw [List.length_take] at hhl
      have cV := Lib.hid (fun W => vlen_any r hrl (vlen r) rfl W)
      have cH := Lib.hid (fun W hE => cHalve (r.take (vlen r)) (by rw [List.length_take]; omega) W hE)
      have hsn := cellsL_snoc done (c1, halveL (r.take (vlen r)))
      unfold encS at hsn
      simp only at hsn
      have HSn := Lib.hid hsn
      have hbt := get_bt (S (c0 :: c1 :: r))
      have hb1 : bt (S (c0 :: c1 :: r)) 1 = (c1.toNat : Int) := by rw [bt_S]; rfl
      have HMs : RowKit.Hid (strL (.string (S (r.drop (vlen r)))) < strL (.string (S (c0 :: c1 :: r)))) := by
        show (S (r.drop (vlen r))).size < (S (c0 :: c1 :: r)).size
        rw [S_size, S_size, List.length_drop]
        simp only [List.length_cons]
        omega
      have hdz : (r.drop (vlen r)).length ≤ 1000000 := by rw [List.length_drop]; omega
      have hx2 : (S (c0 :: c1 :: r)).extract 2 (r.length + 2) = S r := by
        rw [S_extract, List.take_of_length_le (by simp)]
        rfl
      have hxa : (S r).extract 0 (vlen r) = S (r.take (vlen r)) := by rw [S_extract, List.drop_zero]
      have hxb : (S r).extract (vlen r) r.length = S (r.drop (vlen r)) := by rw [S_extract, List.take_length]
      have hrs2 : (S (c0 :: c1 :: r)).size = r.length + 2 := by rw [hrs]; rfl
      have hrs3 := S_size r
      have d1' : decide ((1 : Int) < ((r.length + 2 : Nat) : Int)) = true := decide_eq_true (by omega)
      rw [hd] at hown hk ⊢
      have HDl := Lib.hid hd
      have Hbw := Lib.hid hbw
      have HOwn := Lib.hid hown
      have HE1 := Lib.hid (HE.out _ hbw.drew)
      generalize r.drop (vlen r) = rd at *
      generalize halveL (r.take (vlen r)) = hv at *
      generalize r.take (vlen r) = rt at *
      generalize vlen r = e at *
      generalize r.length = rl at *
      generalize S r = sr at *
      generalize S (c0 :: c1 :: r) = sm at *
      obtain ⟨cy, hcy⟩ : ∃ cy, ((c1.toNat : Nat) : Int) = cy := ⟨_, rfl⟩
      rw [hcy] at hb1 HSn
      have j1 : (e : Int) ≤ (rl : Int) := by omega
      have j0 : (0 : Int) ≤ (e : Int) := by omega
      have j2 : (2 : Int) ≤ ((rl + 2 : Nat) : Int) := by omega
      have j3 : (1 : Int) < ((rl + 2 : Nat) : Int) := by omega
      clear hcy hown hbw hhl hrz hsub hsn HD d1 hrs hd
      have hR : RowKit.Hid (cellsL (done ++ [(c1, hv)]) = cellsL done ++ [.int .u8 cy, .string (S hv)] ∧ (done ++ [(c1, hv)]).length = d + 1) := ⟨HSn.out, by rw [List.length_append, HDl.out]; rfl⟩
      go_wp2
      go_region
      all_goals
        go_wp2_with fail
        refine (cV.out _).mono ?_
        rintro e1 w2 ⟨rfl, hw2⟩
        rw [hw2]
        clear hw2 w2
        go_wp2_with fail
        refine (cH.out _ HE1.out).mono ?_
        rintro e1 w3 ⟨rfl, b3⟩
        have B3 := Lib.hid (Hbw.out.drew.trans (b3.mono hsz))
        have s3 : w.heap.size ≤ w3.heap.size := Nat.le_trans hsz b3.size
        have hown3 := own_after (w := wr.drew) (w' := w3) HOwn.out b3
        have hownA := hown3.alloc (.cells #[.int .u8 cy, .string (S hv)] 45)
        have HOwnA := Lib.hid hownA
        have HCT := Lib.hid (cells_two w3 (.int .u8 cy) (.string (S hv)) 45)
        clear b3 hown3 hownA
        go_wp2_with (at_builtin; refine wpList_append_own _ rfl _ _ 41 rfl w.heap.size 45 i0 (.agg #[.int .u8 0, .string ⟨#[]⟩]) 2 24 Tryd.underlying41 HI.out HZ0.out HZ1.out HZ2.out rfl (by decide) _ _ _ rfl HOwnA.out ⟨w3.heap.size, 0, none⟩ 1 1 [.int .u8 cy, .string (S hv)] rfl rfl HCT.out (by intro u hu; simp at hu; rcases hu with rfl | rfl <;> rfl) (by unfold maxLen; omega) (by omega) (by simp; omega) ?_; intro v5 w5 hown5 hgrow5 hnil5)
        go_roundw
        case rel => exact ⟨rd, k', done ++ [(c1, hv)], rfl, hdz, HD2, by rw [hR.out.2]; omega, by rw [hR.out.1, hR.out.2]; exact hown5, (B3.out.alloc s3 _).grown hgrow5 (by simp; omega) (fun j hj => (HOwnA.out.lt j hj).1)⟩
        case measure => exact HMs.out
    | [], h1, _, _, _, _ => exact absurd (by simp) h1
    | [_], h1, _, _, _, _ => exact absurd (by simp) h1
end

section
open Go.RowKit Go.PlainAid
theorem readP_le (s : List UInt8) : (readP s).subs.length ≤ 17 ∧ ∀ i, i < (readP s).subs.length → ((readP s).subs.getD i sub0).2.length ≤ s.length := by
  obtain ⟨h1, h2⟩ := subsK_le 17 (Lib.cut (Lib.cut s [32]).2.1 [32]).2.1
  refine ⟨h1, fun i hi => ?_⟩
  have h3 := (cut_le (Lib.cut s [32]).2.1 [32]).2
  have h4 := (cut_le s [32]).2
  have := h2 i hi
  show ((subsK 17 (Lib.cut (Lib.cut s [32]).2.1 [32]).2.1).getD i sub0).2.length ≤ _
  omega

set_option maxHeartbeats 16000000 in
set_option maxRecDepth 100000 in
theorem read_any (s : List UInt8) (hz : s.length ≤ 1000000) (w : World) (hE : Env w) :
    Calls Tryd.prog 44 #[.string (S s)] w fun e w' => ∃ v, e = .returned (FV (readP s) v) ∧ w'.ownsRow w.heap.size 45 2 v (readP s).subs.length (cellsL (readP s).subs) ∧ Below w.heap.size w w' := by
  obtain ⟨⟨hd, rest, t1⟩, hc1⟩ : ∃ p, Lib.cut s [32] = p := ⟨_, rfl⟩
  obtain ⟨⟨ind, subs, t2⟩, hc2⟩ : ∃ p, Lib.cut rest [32] = p := ⟨_, rfl⟩
  obtain ⟨⟨tag, num, t3⟩, hc3⟩ : ∃ p, Lib.cut hd [64] = p := ⟨_, rfl⟩
  have hrp : readP s = ⟨tag, ind.map unB, subsK 17 subs, atoiV num⟩ := by
    unfold readP
    simp only [hc1, hc2, hc3]
  have l1 := cut_le s [32]
  have l2 := cut_le rest [32]
  have l3 := cut_le hd [64]
  rw [hc1] at l1
  rw [hc2] at l2
  rw [hc3] at l3
  simp only at l1 l2 l3
  rw [hrp]
  unfold FV
  simp only
  have cC1 := Lib.hid (fun W hE => cCut s 32 hz hd rest t1 hc1 W hE)
  have cC2 := Lib.hid (fun W hE => cCut rest 32 (by omega) ind subs t2 hc2 W hE)
  have cC3 := Lib.hid (fun W hE => cCut hd 64 (by omega) tag num t3 hc3 W hE)
  have cA := Lib.hid (fun W hE => cAtoi num (by omega) W hE)
  have cU := Lib.hid (fun W hE => cUnmark ind (by omega) W hE)
  have cS := Lib.hid (fun W hE => readSubs_any subs (by omega) W hE)
  clear hrp hc1 hc2 hc3 l1 l2 l3 hz
  have b0 : Below w.heap.size w (w.alloc (.cells #[.string ⟨#[]⟩, .string ⟨#[]⟩, .slice none 0 0, .int .i64 0] 43)) := (Below.refl w.heap.size w).alloc (Nat.le_refl _) _
  have hR0 : (w.alloc (.cells #[.string ⟨#[]⟩, .string ⟨#[]⟩, .slice none 0 0, .int .i64 0] 43)).heap[w.heap.size]? = some (.cells #[.string ⟨#[]⟩, .string ⟨#[]⟩, .slice none 0 0, .int .i64 0] 43 (0, 0)) := heap_alloc_new w _
  have hlt0 : w.heap.size < (w.alloc (.cells #[.string ⟨#[]⟩, .string ⟨#[]⟩, .slice none 0 0, .int .i64 0] 43)).heap.size := by simp
  obtain ⟨W0, hW0⟩ : ∃ W0, w.alloc (.cells #[.string ⟨#[]⟩, .string ⟨#[]⟩, .slice none 0 0, .int .i64 0] 43) = W0 := ⟨_, rfl⟩
  rw [hW0] at b0 hR0 hlt0
  have HW0 := Lib.hid hW0
  have HE := Lib.hid (fun W (h : Below W0.heap.size W0 W) => (hE.after b0).after h)
  have HR0 := Lib.hid hR0
  clear hW0 hE hR0
  generalize atoiV num = au at *
  generalize S s = ss at *
  generalize S hd = shd at *
  generalize S rest = srest at *
  generalize S num = snum at *
  generalize S tag = stag at *
  go_enter Tryd.func44, Tryd.ntmps44
  go_wp2_with fail
  rw [HW0.out]
  refine (cC1.out _ (HE.out _ (Below.refl _ _))).mono ?_
  rintro e w1 ⟨rfl, b1⟩
  have B1 := Lib.hid b1
  have s1 := b1.size
  clear b1 cC1
  go_wp2_with fail
  refine (cC2.out _ (HE.out _ B1.out)).mono ?_
  rintro e w2 ⟨rfl, b2⟩
  have B2 := Lib.hid (B1.out.trans (b2.mono s1))
  have s2 := Nat.le_trans s1 b2.size
  clear b2 B1 cC2
  go_wp2_with fail
  refine (cC3.out _ (HE.out _ B2.out)).mono ?_
  rintro e w3 ⟨rfl, b3⟩
  have B3 := Lib.hid (B2.out.trans (b3.mono s2))
  have s3 := Nat.le_trans s2 b3.size
  clear b3 B2 cC3
  go_wp2_with fail
  refine (cA.out _ (HE.out _ B3.out)).mono ?_
  rintro e w4 ⟨er, rfl, b4⟩
  have B4 := Lib.hid (B3.out.trans (b4.mono s3))
  have s4 := Nat.le_trans s3 b4.size
  clear b4 B3 cA
  go_wp2_with fail
  refine (cU.out _ (HE.out _ B4.out)).mono ?_
  rintro e w5 ⟨rfl, b5⟩
  have B5 := Lib.hid (B4.out.trans (b5.mono s4))
  have s5 := Nat.le_trans s4 b5.size
  clear b5 B4 cU
  go_wp2_with fail
  refine (cS.out _ (HE.out _ B5.out)).mono ?_
  rintro e w6 ⟨v, rfl, hown, b6⟩
  have B6 := Lib.hid (B5.out.trans (b6.mono s5))
  obtain ⟨ao, cp, rfl⟩ := own_form hown
  have hR6 := (B6.out.block w.heap.size hlt0).trans HR0.out
  obtain ⟨⟨r0, r1, r2, r3⟩, g0, g1, g2, g3⟩ := field_cells hR6
  have hfin := Lib.hid (field_set (x0 := .string stag) (x1 := .string (S (ind.map unB))) (x2 := .slice ao (subsK 17 subs).length cp) (x3 := .int .i64 au) hR6)
  have hbl := Lib.hid (b0.trans (B6.out.mono b0.size))
  have Fin := Lib.hid ((((hbl.out.setCell (p := ⟨w.heap.size, 0, none⟩) (Nat.le_refl _) (.string stag)).setCell (p := ⟨w.heap.size, 1, none⟩) (Nat.le_refl _) (.string (S (ind.map unB)))).setCell (p := ⟨w.heap.size, 2, none⟩) (Nat.le_refl _) (.slice ao (subsK 17 subs).length cp)).setCell (p := ⟨w.heap.size, 3, none⟩) (Nat.le_refl _) (.int .i64 au))
  have hlo : w.heap.size < w5.heap.size := Nat.lt_of_lt_of_le hlt0 s5
  have HO := Lib.hid (own_setCell (own_setCell (own_setCell (own_setCell hown (p := ⟨w.heap.size, 0, none⟩) hlo (.string stag)) (p := ⟨w.heap.size, 1, none⟩) hlo (.string (S (ind.map unB)))) (p := ⟨w.heap.size, 2, none⟩) hlo (.slice ao (subsK 17 subs).length cp)) (p := ⟨w.heap.size, 3, none⟩) hlo (.int .i64 au))
  have hle : w.heap.size ≤ w5.heap.size := Nat.le_of_lt hlo
  clear hown b6 B5 cS hR6 hlo
  go_wp2
  (try simp only [Exit.inBlock, Exit.then])
  refine bodyPost_ret (results_cell_row rfl _ _ w.heap.size _ _ _ _ rfl hfin.out Tryd.underlying43 rfl (by kernel_rfl)) rfl ?_
  refine ⟨_, rfl, ?_, Fin.out⟩
  have := HO.out
  refine ⟨this.1, ?_⟩
  rcases this.2 with hn | ⟨g, cap, cur, hv, hB', rest⟩
  · exact .inl hn
  · exact .inr ⟨g, cap, cur, hv, Nat.le_trans hle hB', rest⟩

set_option maxHeartbeats 16000000 in
set_option maxRecDepth 100000 in
theorem fParse_any (s : List UInt8) (hs : s.length ≤ 1000000) (w : World) (hE : Env w) (f : Fld) (er : Int) (h : parseR s = (f, er)) :
    Calls Tryd.prog 32 #[.string (S s)] w fun e w' => ∃ v, e = .returned (.tuple #[FV f v, .int .i64 er]) ∧ QL v f.subs w' ∧ Below w.heap.size w w' := by
  have hR0 : (w.alloc (.cells #[.string ⟨#[]⟩, .string ⟨#[]⟩, .slice none 0 0, .int .i64 0] 43)).heap[w.heap.size]? = some (.cells #[.string ⟨#[]⟩, .string ⟨#[]⟩, .slice none 0 0, .int .i64 0] 43 (0, 0)) := heap_alloc_new w _
  have b0 : Below w.heap.size w (w.alloc (.cells #[.string ⟨#[]⟩, .string ⟨#[]⟩, .slice none 0 0, .int .i64 0] 43)) := (Below.refl w.heap.size w).alloc (Nat.le_refl _) _
  have hlt0 : w.heap.size < (w.alloc (.cells #[.string ⟨#[]⟩, .string ⟨#[]⟩, .slice none 0 0, .int .i64 0] 43)).heap.size := by simp
  have cR := Lib.hid (read_any s hs _ (hE.after b0))
  obtain ⟨Q, hQ⟩ : ∃ Q, (fun (e : Ending) (w' : World) => ∃ v, e = .returned (.tuple #[FV f v, .int .i64 er]) ∧ QL v f.subs w' ∧ Below w.heap.size w w') = Q := ⟨_, rfl⟩
  rw [hQ]
  have HQ : RowKit.Hid (∀ e w', (∃ v, e = .returned (.tuple #[FV f v, .int .i64 er]) ∧ QL v f.subs w' ∧ Below w.heap.size w w') → Q e w') := by rw [← hQ]; exact fun _ _ h => h
  clear hQ
  have H := Lib.hid h
  clear h
  obtain ⟨hn17, hle⟩ := readP_le s
  obtain ⟨f0, hf0⟩ : ∃ f0, readP s = f0 := ⟨_, rfl⟩
  have HSome := Lib.hid (readP_some s)
  have HNone := Lib.hid (readP_none s)
  rw [hf0] at cR hle HSome HNone
  obtain ⟨pr, hpr⟩ : ∃ pr, printR f0 = pr := ⟨_, rfl⟩
  obtain ⟨r, pe⟩ := pr
  have HEnv := Lib.hid (fun W (h : Below w.heap.size w W) => hE.after h)
  have cP := Lib.hid (fun u W hE hq => fPrint_any f0 u W hE hq (fun i hi => by have := hle i hi; omega) r pe hpr)
  clear hle hn17 hf0 hE
  obtain ⟨st, hst⟩ : ∃ st, S s = st := ⟨_, rfl⟩
  rw [hst] at cR ⊢
  have HST := Lib.hid hst
  clear hst
  unfold FV at cR
  go_enter Tryd.func32, Tryd.ntmps32
  go_wp2_with fail
  refine cR.out.mono ?_
  rintro e w1 ⟨v, rfl, hown, hb⟩
  obtain ⟨ao, cp, rfl⟩ := own_form hown
  obtain ⟨n, hn⟩ : ∃ n, f0.subs.length = n := ⟨_, rfl⟩
  have hR1 := (hb.block w.heap.size hlt0).trans hR0
  have hb1 := b0.trans (hb.mono (Nat.le_of_lt hlt0))
  have hlt1 : w.heap.size < w1.heap.size := Nat.lt_of_lt_of_le hlt0 hb.size
  have hR2 : (w1.alloc (.cells #[.string (S f0.tag), .string (S f0.ind), .slice ao f0.subs.length cp, .int .i64 f0.auth] 43)).heap[w.heap.size]? = some (.cells #[.string ⟨#[]⟩, .string ⟨#[]⟩, .slice none 0 0, .int .i64 0] 43 (0, 0)) := (Below.heap_alloc _ _ _ hlt1).trans hR1
  have hF2 : (w1.alloc (.cells #[.string (S f0.tag), .string (S f0.ind), .slice ao f0.subs.length cp, .int .i64 f0.auth] 43)).heap[w1.heap.size]? = some (.cells #[.string (S f0.tag), .string (S f0.ind), .slice ao f0.subs.length cp, .int .i64 f0.auth] 43 (0, 0)) := heap_alloc_new w1 _
  have hb2 := hb1.alloc (Nat.le_of_lt hlt1) (.cells #[.string (S f0.tag), .string (S f0.ind), .slice ao f0.subs.length cp, .int .i64 f0.auth] 43)
  have hown2 := hown.alloc (.cells #[.string (S f0.tag), .string (S f0.ind), .slice ao f0.subs.length cp, .int .i64 f0.auth] 43)
  have hlt2 : w1.heap.size < (w1.alloc (.cells #[.string (S f0.tag), .string (S f0.ind), .slice ao f0.subs.length cp, .int .i64 f0.auth] 43)).heap.size := by simp
  have cP2 := Lib.hid (cP.out _ _ (HEnv.out _ hb2) (QL.of_row hown2))
  unfold FV at cP2
  obtain ⟨w2, hw2⟩ : ∃ w2, w1.alloc (.cells #[.string (S f0.tag), .string (S f0.ind), .slice ao f0.subs.length cp, .int .i64 f0.auth] 43) = w2 := ⟨_, rfl⟩
  rw [hw2] at cP2 hown2 hR2 hF2 hb2 hlt2
  have HW2 := Lib.hid hw2
  have HR2 := Lib.hid hR2
  have HF2 := Lib.hid hF2
  have HB2 := Lib.hid hb2
  have HOwn2 := Lib.hid hown2
  clear hR1 hb1 hR0 b0 hb hb2 hown hown2 hR2 hF2 hw2 cP hn
  go_wp2_with fail
  rw [HW2.out]
  refine cP2.out.mono ?_
  rintro e w3 ⟨rfl, b3⟩
  have hR3 := (b3.block w.heap.size (by omega)).trans HR2.out
  have hF3 := (b3.block w1.heap.size hlt2).trans HF2.out
  have HOwn3 := Lib.hid (own_after HOwn2.out b3)
  have HB3 := Lib.hid (HB2.out.trans (b3.mono (by omega)))
  clear b3 cP2
  have hq := S_eq r s
  rw [HST.out] at hq
  by_cases hok : rightI f0 = 0 ∧ lineL f0 = s
  · have hP : parseR s = (f0, 0) := by
      unfold parseR
      rw [HSome.out hok]
    have hH := H.out
    rw [hP] at hH
    obtain ⟨rfl, rfl⟩ := Prod.mk.inj hH
    unfold printR at hpr
    rw [if_pos hok.1] at hpr
    obtain ⟨hr1, rfl⟩ := Prod.mk.inj hpr
    rw [← hr1, hok.2, decide_eq_true rfl, HST.out] at hq
    rw [← hr1, hok.2, HST.out]
    obtain ⟨⟨q0, q1, q2, q3⟩, p0, p1, p2, p3⟩ := field_cells hF3
    obtain ⟨⟨r0, r1, r2, r3⟩, g0, g1, g2, g3⟩ := field_cells hR3
    have hfin := Lib.hid (field_set (x0 := .string (S f0.tag)) (x1 := .string (S f0.ind)) (x2 := .slice ao f0.subs.length cp) (x3 := .int .i64 f0.auth) hR3)
    have Fin := Lib.hid ((((HB3.out.setCell (p := ⟨w.heap.size, 0, none⟩) (Nat.le_refl _) (.string (S f0.tag))).setCell (p := ⟨w.heap.size, 1, none⟩) (Nat.le_refl _) (.string (S f0.ind))).setCell (p := ⟨w.heap.size, 2, none⟩) (Nat.le_refl _) (.slice ao f0.subs.length cp)).setCell (p := ⟨w.heap.size, 3, none⟩) (Nat.le_refl _) (.int .i64 f0.auth))
    have hB' : ∀ k, k < 4 → (⟨w.heap.size, k, none⟩ : Addr).block < (w.alloc (.cells #[.string ⟨#[]⟩, .string ⟨#[]⟩, .slice none 0 0, .int .i64 0] 43)).heap.size := fun k _ => hlt0
    have HQL := Lib.hid (QL.of_row (own_setCell (own_setCell (own_setCell (own_setCell HOwn3.out (hB' 0 (by decide)) (.string (S f0.tag))) (hB' 1 (by decide)) (.string (S f0.ind))) (hB' 2 (by decide)) (.slice ao f0.subs.length cp)) (hB' 3 (by decide)) (.int .i64 f0.auth)))
    clear hB' hok hP hH hpr hr1 hR3 hF3
    go_wp2
    (try simp only [Exit.inBlock, Exit.then])
    refine bodyPost_ret (results_row_tmp rfl _ _ w.heap.size _ _ _ _ rfl hfin.out Tryd.underlying43 rfl (by kernel_rfl)) rfl ?_
    exact HQ.out _ _ ⟨_, rfl, HQL.out, Fin.out⟩
  · have hP : parseR s = (fld0, 3) := by
      unfold parseR
      rw [HNone.out hok]
    have hH := H.out
    rw [hP] at hH
    obtain ⟨rfl, rfl⟩ := Prod.mk.inj hH
    have hcase : pe ≠ 0 ∨ (pe = 0 ∧ r ≠ s) := by
      unfold printR at hpr
      by_cases h0 : rightI f0 = 0
      · rw [if_pos h0] at hpr
        obtain ⟨hr1, rfl⟩ := Prod.mk.inj hpr
        exact .inr ⟨rfl, fun e => hok ⟨h0, hr1.trans e⟩⟩
      · rw [if_neg h0] at hpr
        obtain ⟨_, rfl⟩ := Prod.mk.inj hpr
        exact .inl h0
    obtain ⟨⟨r0, r1, r2, r3⟩, g0, g1, g2, g3⟩ := field_cells hR3
    have hfin := Lib.hid (field_set (x0 := .string ⟨#[]⟩) (x1 := .string ⟨#[]⟩) (x2 := .slice none 0 0) (x3 := .int .i64 0) hR3)
    have Fin := Lib.hid ((((HB3.out.setCell (p := ⟨w.heap.size, 0, none⟩) (Nat.le_refl _) (.string ⟨#[]⟩)).setCell (p := ⟨w.heap.size, 1, none⟩) (Nat.le_refl _) (.string ⟨#[]⟩)).setCell (p := ⟨w.heap.size, 2, none⟩) (Nat.le_refl _) (.slice none 0 0)).setCell (p := ⟨w.heap.size, 3, none⟩) (Nat.le_refl _) (.int .i64 0))
    clear hok hP hH hpr hR3 hF3
    rcases hcase with h0 | ⟨rfl, hne⟩
    · have t0 : (pe != 0) = true := by simpa using h0
      clear hq
      go_wp2
      (try simp only [Exit.inBlock, Exit.then])
      refine bodyPost_ret (results_row_tmp rfl _ _ w.heap.size _ _ _ _ rfl hfin.out Tryd.underlying43 rfl (by kernel_rfl)) rfl ?_
      exact HQ.out _ _ ⟨_, rfl, ⟨Option.none, 0, rfl, Nat.le_refl _, Nat.zero_le _, fun _ => rfl, fun i hi => by cases hi⟩, Fin.out⟩
    · rw [decide_eq_false hne] at hq
      clear hne
      generalize S r = sr at *
      go_wp2
      (try simp only [Exit.inBlock, Exit.then])
      refine bodyPost_ret (results_row_tmp rfl _ _ w.heap.size _ _ _ _ rfl hfin.out Tryd.underlying43 rfl (by kernel_rfl)) rfl ?_
      exact HQ.out _ _ ⟨_, rfl, ⟨Option.none, 0, rfl, Nat.le_refl _, Nat.zero_le _, fun _ => rfl, fun i hi => by cases hi⟩, Fin.out⟩
end
end

end Go.Proofs.YtnfallkeicehiaaDoor
