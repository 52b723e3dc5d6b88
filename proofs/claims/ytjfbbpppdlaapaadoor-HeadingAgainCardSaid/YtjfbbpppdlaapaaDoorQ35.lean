/- Merged: LD12, LB12. -/
import Derived.Test.YtjfbbpppdlaapaaDoorQ31
namespace Go.Proofs.YtjfbbpppdlaapaaDoor

section
open Go.RowKit Go.PlainAid
theorem norm_valid (l : List UInt8) (h : validT l = true) : validT (normX l) = true := by
  refine glu_valid dd dd_valid _ (fun x hx => ?_)
  obtain ⟨cs, hcs, rfl, _⟩ := norm_words l h x hx
  exact validT_enc _ (join_OK _ (W_OK cs hcs))
set_option maxHeartbeats 16000000 in
set_option maxRecDepth 100000 in
theorem lawAgain12_any (a : List UInt8) (w : World) (hE : Env w) :
    Calls Tryd.prog 9 #[.string (S a)] w fun e w' => e = .returned (.bool true) ∧ Below w.heap.size w w' := by
  obtain ⟨Q, hQ⟩ : ∃ Q, (fun (e : Ending) (w' : World) => e = .returned (.bool true) ∧ Below w.heap.size w w') = Q := ⟨_, rfl⟩
  rw [hQ]
  have HQ : RowKit.Hid (∀ e w', (e = .returned (.bool true) ∧ Below w.heap.size w w') → Q e w') := by rw [← hQ]; exact fun _ _ h => h
  clear hQ
  have HE := Lib.hid hE
  have B0 := Lib.hid (Below.refl w.heap.size w)
  have cA := Lib.hid (fun W hW => lalive12_any W hW)
  have cT := Lib.hid (fun W => ltext12_any a W)
  have c1 := Lib.hid (fun (h : okT a = true) W hW => pNorm12_any a (okT_out a h).2 (Nat.le_trans (okT_out a h).1 (by decide)) W hW)
  have hlen := fun (h : okT a = true) => (show (normX a).length ≤ 9000 by
    have h1 := norm_len a (okT_out a h).2
    have h2 := (okT_out a h).1
    omega)
  have c2 := Lib.hid (fun (h : okT a = true) W hW => pNorm12_any (normX a) (norm_valid a (okT_out a h).2) (hlen h) W hW)
  have c3 := Lib.hid (fun (h : okT a = true) W hW => pSame12_any a (normX a) (okT_out a h).2 (Nat.le_trans (okT_out a h).1 (by decide)) (norm_valid a (okT_out a h).2) (hlen h) W hW)
  have h1 := Lib.hid (fun (h : okT a = true) => norm_again a (okT_out a h).2)
  have h2 := Lib.hid (fun (h : okT a = true) => same_again a (okT_out a h).2)
  clear hlen
  obtain ⟨ka, hka⟩ : ∃ k, okT a = k := ⟨_, rfl⟩
  rw [hka] at cT c1 c2 c3 h1 h2
  clear hka hE
  go_enter Tryd.func9, Tryd.ntmps9
  go_wp2_with fail
  refine (cA.out w HE.out).mono ?_
  rintro e w1 ⟨rfl, hb1⟩
  have B1 := Lib.hid (B0.out.trans (hb1.mono B0.out.size))
  clear hb1
  go_wp2_with fail
  refine (cT.out w1).mono ?_
  rintro e w2 ⟨rfl, hb2⟩
  have B2 := Lib.hid (B1.out.trans (hb2.mono B1.out.size))
  clear hb2
  cases ka with
  | false =>
    clear c1 c2 c3 h1 h2
    go_wp2
    first | exact HQ.out _ _ ⟨rfl, B2.out⟩ | (go_ret; exact HQ.out _ _ ⟨rfl, B2.out⟩)
  | true =>
    replace c1 := Lib.hid (c1.out (by simp))
    replace c2 := c2.out (by simp)
    replace c3 := c3.out (by simp)
    rw [h1.out (by simp)] at c2
    rw [h2.out (by simp)] at c3
    replace c2 := Lib.hid c2
    replace c3 := Lib.hid c3
    clear h1 h2 cA cT
    obtain ⟨N, hN⟩ : ∃ N, normX a = N := ⟨_, rfl⟩
    rw [hN] at c1 c2 c3
    clear hN
    generalize S a = sa at *
    by_cases hne : N = []
    · subst hne
      rw [decide_eq_false (by simp)] at c3
      have e0 : S [] = (⟨#[]⟩ : ByteArray) := rfl
      rw [e0] at c1 c2 c3
      go_wp2_with fail
      refine (c1.out w2 (HE.out.after B2.out)).mono ?_
      rintro e w3 ⟨rfl, hb3⟩
      have B3 := Lib.hid (B2.out.trans (hb3.mono B2.out.size))
      clear hb3
      go_wp2_with fail
      refine (c2.out w3 (HE.out.after B3.out)).mono ?_
      rintro e w4 ⟨rfl, hb4⟩
      have B4 := Lib.hid (B3.out.trans (hb4.mono B3.out.size))
      clear hb4
      go_wp2_with fail
      refine (c3.out w4 (HE.out.after B4.out)).mono ?_
      rintro e w5 ⟨rfl, hb5⟩
      have B5 := Lib.hid (B4.out.trans (hb5.mono B4.out.size))
      clear hb5
      go_wp2
      first | exact HQ.out _ _ ⟨rfl, B5.out⟩ | (go_ret; exact HQ.out _ _ ⟨rfl, B5.out⟩)
    · rw [decide_eq_true hne] at c3
      obtain ⟨s1, s2⟩ := S_facts N hne
      clear hne
      generalize S N = sn at *
      go_wp2_with fail
      refine (c1.out w2 (HE.out.after B2.out)).mono ?_
      rintro e w3 ⟨rfl, hb3⟩
      have B3 := Lib.hid (B2.out.trans (hb3.mono B2.out.size))
      clear hb3
      go_wp2_with fail
      refine (c2.out w3 (HE.out.after B3.out)).mono ?_
      rintro e w4 ⟨rfl, hb4⟩
      have B4 := Lib.hid (B3.out.trans (hb4.mono B3.out.size))
      clear hb4
      go_wp2_with fail
      refine (c3.out w4 (HE.out.after B4.out)).mono ?_
      rintro e w5 ⟨rfl, hb5⟩
      have B5 := Lib.hid (B4.out.trans (hb5.mono B4.out.size))
      clear hb5
      go_wp2
      first | exact HQ.out _ _ ⟨rfl, B5.out⟩ | (go_ret; exact HQ.out _ _ ⟨rfl, B5.out⟩)
end

section
open Go.RowKit Go.PlainAid
set_option maxHeartbeats 16000000 in
set_option maxRecDepth 100000 in
theorem lawBack12_any (v : Value) (L : List (List UInt8)) (s : List UInt8) (w : World) (hE : Env w) (hv : BL v L w) :
    Calls Tryd.prog 10 #[v, .string (S s)] w fun e w' => e = .returned (.bool true) ∧ Below w.heap.size w w' := by
  obtain ⟨Q, hQ⟩ : ∃ Q, (fun (e : Ending) (w' : World) => e = .returned (.bool true) ∧ Below w.heap.size w w') = Q := ⟨_, rfl⟩
  rw [hQ]
  have HQ : RowKit.Hid (∀ e w', (e = .returned (.bool true) ∧ Below w.heap.size w w') → Q e w') := by rw [← hQ]; exact fun _ _ h => h
  clear hQ
  have HE := Lib.hid hE
  have B0 := Lib.hid (Below.refl w.heap.size w)
  have cA := Lib.hid (fun W hW => lalive12_any W hW)
  have HV := Lib.hid hv
  obtain ⟨va, vc, hve, hc1, hc2⟩ := hv.length
  have cS := Lib.hid (fun W h => lshort12_any L v W h)
  obtain ⟨h, er, hj⟩ : ∃ h e, joinX L = (h, e) := ⟨_, _, rfl⟩
  obtain ⟨nm, f, hm⟩ : ∃ n e, nameX s = (n, e) := ⟨_, _, rfl⟩
  have cJ := Lib.hid (fun (q : shortOk L) W hW hb => pJoin12_any L v W hW hb (Nat.le_trans q.1 (by decide)) (fun x hx => Nat.le_trans (q.2 x hx) (by decide)) h er hj)
  have HG : RowKit.Hid (er = 0 → validT h = true ∧ h.length ≤ 10000 ∧ partsX h = L ∧ (aboveX h).length + 1 = L.length) := by
    rintro rfl
    have h0 := join_ok L h hj
    have hp := parts_join L h hj
    have ha := above_len h
    have hv0 := join_valid L h hj
    rw [hp] at ha
    have hpos := List.length_pos_iff.2 h0.1
    exact ⟨hv0, Nat.le_trans h0.2.2.2 (by decide), hp, by omega⟩
  have cN := Lib.hid (fun (q : s.length ≤ 1000) W hW => pName12_any s (Nat.le_trans q (by decide)) nm f hm W hW)
  have HM : RowKit.Hid (f = 0 → s.length ≤ 1000 → ∀ W, Env W → Calls Tryd.prog 27 #[NV nm] W fun e w' => e = .returned (.tuple #[.string (S s), .int .i64 0]) ∧ Below W.heap.size W w') := by
    rintro rfl hs W hW
    have ht := name_text s nm (name_some s nm hm)
    have hl : (textN nm).length ≤ 1000 := by rw [ht]; exact hs
    unfold textN at hl
    refine pText12_any nm ?_ ?_ ?_ s 0 (name_back s nm hm) W hW
    all_goals
      revert hl
      split <;> split <;> simp_all <;> omega
  have HO : RowKit.Hid (f ≠ 0 → nm = nm0) := fun q => name_no s nm f hm q
  have hsz := S_size s
  subst hve
  obtain ⟨n, hn⟩ : ∃ n, L.length = n := ⟨_, rfl⟩
  rw [hn] at HV hc1 HG cS cJ ⊢
  unfold maxLen at hc2
  have hEn := fun W => eqIn_nm nm nm0 W
  obtain ⟨sl, hsl⟩ : ∃ k, s.length = k := ⟨_, rfl⟩
  rw [hsl] at cN HM hsz
  obtain ⟨hS, hhS⟩ : ∃ x, S h = x := ⟨_, rfl⟩
  have cP := Lib.hid (fun (q : er = 0) W hW => pParts12_any h (HG.out q).1 (HG.out q).2.1 W hW)
  have cV := Lib.hid (fun (q : er = 0) W hW => pAbove12_any h (HG.out q).1 (HG.out q).2.1 W hW)
  have HG1 : RowKit.Hid (er = 0 → partsX h = L) := fun q => (HG.out q).2.2.1
  obtain ⟨A, hA⟩ : ∃ A, aboveX h = A := ⟨_, rfl⟩
  have HG2 : RowKit.Hid (er = 0 → A.length + 1 = n) := fun q => by rw [← hA]; exact (HG.out q).2.2.2
  rw [hA] at cV
  rw [hhS] at cJ cP cV
  clear HG hj hm hv hE hn hsl hhS hA
  unfold NV at cN HM hEn
  generalize S s = st at *
  go_enter Tryd.func10, Tryd.ntmps10
  go_wp2_with fail
  refine (cA.out w HE.out).mono ?_
  rintro e w1 ⟨rfl, hb1⟩
  have B1 := Lib.hid (B0.out.trans (hb1.mono B0.out.size))
  clear hb1
  go_wp2_with fail
  refine (cS.out w1 (HV.out.after B1.out)).mono ?_
  rintro e w1' ⟨b, rfl, hb, hww⟩
  rw [hww]
  have HSh := Lib.hid hb
  clear hb hww cS
  cases b with
  | false =>
    clear cJ HM cN cP cV HG1 HG2
    go_wp2
    first | exact HQ.out _ _ ⟨rfl, B1.out⟩ | (go_ret; exact HQ.out _ _ ⟨rfl, B1.out⟩)
  | true =>
  have hsh := HSh.out (by simp)
  replace hsh := Lib.hid hsh
  by_cases hz : sl ≤ 1000
  · have t1 : decide ((1000 : Int) < (sl : Int)) = false := decide_eq_false (by omega)
    have HHz := Lib.hid hz
    clear HSh hz
    go_wp2_with fail
    refine (cJ.out hsh.out w1 (HE.out.after B1.out) (HV.out.after B1.out)).mono ?_
    rintro e w2 ⟨rfl, hb2⟩
    have B2 := Lib.hid (B1.out.trans (hb2.mono B1.out.size))
    clear hb2 cJ hsh
    by_cases hz0 : er = 0
    · subst hz0
      have hp := HG1.out rfl
      have hA := HG2.out rfl
      have c1 := Lib.hid (cP.out rfl)
      have c2 := Lib.hid (cV.out rfl)
      rw [hp] at c1
      clear cP cV HG1 HG2 hp
      obtain ⟨m, hm⟩ : ∃ m, A.length = m := ⟨_, rfl⟩
      rw [hm] at hA
      have HMl := Lib.hid hm
      have t2 : ((m : Int) != (n : Int) - 1) = false := by
        have : (m : Int) = (n : Int) - 1 := by omega
        rw [this]; simp
      clear hm
      go_wp2_with fail
      refine (c1.out w2 (HE.out.after B2.out)).mono ?_
      rintro e w3 ⟨v3, rfl, hr3, hb3⟩
      have B3 := Lib.hid (B2.out.trans (hb3.mono B2.out.size))
      have c3 := Lib.hid (refSameList_eq L v3 _ w3 hr3 (by have := HV.out.after B3.out; exact this))
      obtain ⟨a3, p3, rfl, -, -⟩ := hr3.length
      clear hb3 hr3 c1
      go_wp2_with fail
      refine c3.out.mono ?_
      rintro e w4 ⟨rfl, hb4⟩
      have B4 := Lib.hid (B3.out.trans (hb4.mono B3.out.size))
      clear hb4 c3
      go_wp2_with fail
      refine (c2.out w4 (HE.out.after B4.out)).mono ?_
      rintro e w5 ⟨v5, rfl, hr5, hb5⟩
      have B5 := Lib.hid (B4.out.trans (hb5.mono B4.out.size))
      obtain ⟨a5, p5, rfl, -, -⟩ := hr5.length
      rw [HMl.out]
      clear hb5 hr5 c2
      go_wp2_with fail
      refine (cN.out HHz.out w5 (HE.out.after B5.out)).mono ?_
      rintro e w6 ⟨rfl, hb6⟩
      have B6 := Lib.hid (B5.out.trans (hb6.mono B5.out.size))
      clear hb6 cN
      have hA7 := (Below.refl w6.heap.size w6).alloc (Nat.le_refl _) (.cells #[.string (S nm.1), .string (S nm.2.1), .string (S nm.2.2)] 34)
      have hN7 := heap_alloc_new w6 (.cells #[.string (S nm.1), .string (S nm.2.1), .string (S nm.2.2)] 34)
      obtain ⟨w7, hw7⟩ : ∃ W, w6.alloc (.cells #[.string (S nm.1), .string (S nm.2.1), .string (S nm.2.2)] 34) = W := ⟨_, rfl⟩
      rw [hw7] at hA7 hN7
      have B7 := Lib.hid (B6.out.trans (hA7.mono B6.out.size))
      have HW7 := Lib.hid hw7
      clear hA7 hw7
      go_upto_region 9 with fail
      rw [HW7.out]
      clear HW7
      obtain ⟨⟨x0, x1, x2⟩, -⟩ := ncells hN7
      obtain ⟨bn, hbn⟩ : ∃ b, w6.heap.size = b := ⟨_, rfl⟩
      rw [hbn] at x0 x1 x2 ⊢
      clear hbn hN7
      by_cases hf : f = 0
      · subst hf
        have cX := Lib.hid (HM.out rfl HHz.out w7 (HE.out.after B7.out))
        clear HM HO
        go_wp2_with fail
        refine cX.out.mono ?_
        rintro e w8 ⟨rfl, hb8⟩
        have B8 := Lib.hid (B7.out.trans (hb8.mono B7.out.size))
        clear hb8 cX
        go_wp2_with fail
        exact HQ.out _ _ ⟨rfl, B8.out⟩
      · have hnm := HO.out hf
        subst hnm
        rw [decide_eq_true rfl] at hEn
        have e0 : S nm0.1 = ⟨#[]⟩ := rfl
        have e1 : S nm0.2.1 = ⟨#[]⟩ := rfl
        have e2 : S nm0.2.2 = ⟨#[]⟩ := rfl
        rw [e0] at x0
        rw [e1] at x1
        rw [e2] at x2
        rw [e0, e1, e2] at hEn ⊢
        clear HM HO
        go_wp2_with fail
        exact HQ.out _ _ ⟨rfl, B7.out⟩
    · clear cP cV HG1 HG2
      go_wp2_with fail
      refine (cN.out HHz.out w2 (HE.out.after B2.out)).mono ?_
      rintro e w6 ⟨rfl, hb6⟩
      have B6 := Lib.hid (B2.out.trans (hb6.mono B2.out.size))
      clear hb6 cN
      have hA7 := (Below.refl w6.heap.size w6).alloc (Nat.le_refl _) (.cells #[.string (S nm.1), .string (S nm.2.1), .string (S nm.2.2)] 34)
      have hN7 := heap_alloc_new w6 (.cells #[.string (S nm.1), .string (S nm.2.1), .string (S nm.2.2)] 34)
      obtain ⟨w7, hw7⟩ : ∃ W, w6.alloc (.cells #[.string (S nm.1), .string (S nm.2.1), .string (S nm.2.2)] 34) = W := ⟨_, rfl⟩
      rw [hw7] at hA7 hN7
      have B7 := Lib.hid (B6.out.trans (hA7.mono B6.out.size))
      have HW7 := Lib.hid hw7
      clear hA7 hw7
      go_upto_region 9 with fail
      rw [HW7.out]
      clear HW7
      obtain ⟨⟨x0, x1, x2⟩, -⟩ := ncells hN7
      obtain ⟨bn, hbn⟩ : ∃ b, w6.heap.size = b := ⟨_, rfl⟩
      rw [hbn] at x0 x1 x2 ⊢
      clear hbn hN7
      by_cases hf : f = 0
      · subst hf
        have cX := Lib.hid (HM.out rfl HHz.out w7 (HE.out.after B7.out))
        clear HM HO
        go_wp2_with fail
        refine cX.out.mono ?_
        rintro e w8 ⟨rfl, hb8⟩
        have B8 := Lib.hid (B7.out.trans (hb8.mono B7.out.size))
        clear hb8 cX
        go_wp2_with fail
        exact HQ.out _ _ ⟨rfl, B8.out⟩
      · have hnm := HO.out hf
        subst hnm
        rw [decide_eq_true rfl] at hEn
        have e0 : S nm0.1 = ⟨#[]⟩ := rfl
        have e1 : S nm0.2.1 = ⟨#[]⟩ := rfl
        have e2 : S nm0.2.2 = ⟨#[]⟩ := rfl
        rw [e0] at x0
        rw [e1] at x1
        rw [e2] at x2
        rw [e0, e1, e2] at hEn ⊢
        clear HM HO
        go_wp2_with fail
        exact HQ.out _ _ ⟨rfl, B7.out⟩
  · have t1 : decide ((1000 : Int) < (sl : Int)) = true := decide_eq_true (by omega)
    clear cJ HM cN cP cV HG1 HG2
    go_wp2
    first | exact HQ.out _ _ ⟨rfl, B1.out⟩ | (go_ret; exact HQ.out _ _ ⟨rfl, B1.out⟩)
end

end Go.Proofs.YtjfbbpppdlaapaaDoor
