/- Merged: LI10. -/
import Derived.Test.YtiledacfdaenbaaDoorQ36
namespace Go.Proofs.YtiledacfdaenbaaDoor

section
open Go.RowKit Go.PlainAid
theorem expR_no (L : List Rec) (s : List UInt8) (er : Int) (h : expR L = (s, er)) (h0 : er ≠ 0) : s = [] := by
  by_cases h64 : 64 < L.length
  · unfold expR at h
    rw [if_pos h64] at h
    exact (Prod.mk.inj h).1.symm
  · rw [expR_eq L h64] at h
    by_cases h1 : (catX L).2 ≠ 0
    · rw [if_pos h1] at h
      exact (Prod.mk.inj h).1.symm
    · rw [if_neg h1] at h
      by_cases h2 : 65536 < (catX L).1.length
      · rw [if_pos h2] at h
        exact (Prod.mk.inj h).1.symm
      · rw [if_neg h2] at h
        exact absurd (Prod.mk.inj h).2.symm h0
set_option maxHeartbeats 16000000 in
set_option maxRecDepth 100000 in
theorem lawBack_any (v : Value) (L : List Rec) (w : World) (hE : Env w) (hv : RL v L w) :
    Calls Tryd.prog 6 #[v] w fun e w' => e = .returned (.bool true) ∧ Below w.heap.size w w' := by
  obtain ⟨Q, hQ⟩ : ∃ Q, (fun (e : Ending) (w' : World) => e = .returned (.bool true) ∧ Below w.heap.size w w') = Q := ⟨_, rfl⟩
  rw [hQ]
  have HQ : RowKit.Hid (∀ e w', (e = .returned (.bool true) ∧ Below w.heap.size w w') → Q e w') := by rw [← hQ]; exact fun _ _ h => h
  clear hQ
  have cA := Lib.hid (lalive_any w hE)
  have HE := Lib.hid hE
  have HV := Lib.hid hv
  obtain ⟨a, cap, rfl, -, -⟩ := hv.length
  have cF := Lib.hid (fun W hW => lfew_any L (.slice a L.length cap) W hW)
  have cM := Lib.hid (fun x y W hx hy => lsame_eq L x y W hx hy (fun r => (sameRB_iff r r).2 rfl))
  obtain ⟨s, er, hs⟩ : ∃ s er, expR L = (s, er) := ⟨_, _, rfl⟩
  have cX := Lib.hid (fun W hE hW hok => pExport_any L (.slice a L.length cap) W hE hW hok s er hs)
  have HNo := Lib.hid (expR_no L s er hs)
  obtain ⟨n, hn⟩ : ∃ n, L.length = n := ⟨_, rfl⟩
  rw [hn] at HV cF cX ⊢
  have HN := Lib.hid hn
  have HS := Lib.hid hs
  clear hv hn hE hs
  go_enter Tryd.func6, Tryd.ntmps6
  go_wp2_with fail
  refine cA.out.mono ?_
  rintro e w1 ⟨rfl, hb1⟩
  have B1 := Lib.hid hb1
  clear hb1 cA
  go_wp2_with fail
  refine (cF.out w1 (HV.out.after B1.out)).mono ?_
  rintro e w2 ⟨b, rfl, hb2, hsm⟩
  have B2 := Lib.hid (B1.out.trans (hb2.mono B1.out.size))
  have HSm := Lib.hid hsm
  clear hb2 hsm cF B1
  cases b with
  | false =>
    clear HSm
    go_wp2
    first | exact HQ.out _ _ ⟨rfl, B2.out⟩ | (go_ret; exact HQ.out _ _ ⟨rfl, B2.out⟩)
  | true =>
    have HOk := Lib.hid (okR_all (L := L) (by rw [HN.out]; exact (HSm.out rfl).2))
    have c1 := Lib.hid (cX.out w2 (HE.out.after B2.out) (HV.out.after B2.out) HOk.out)
    have hn8 : n ≤ 8 := (HSm.out rfl).1
    clear HSm cX
    go_wp2_with fail
    refine c1.out.mono ?_
    rintro e w3 ⟨rfl, hb3⟩
    have B3 := Lib.hid (B2.out.trans (hb3.mono B2.out.size))
    clear hb3 c1 B2
    by_cases h0 : er = 0
    · subst h0
      obtain ⟨hEnc, hSp, hIm, hsl, -⟩ := exp_back L s HS.out
      have cSp := Lib.hid (pSplit_any s (by omega) _ 0 hSp w3)
      have cI := Lib.hid (fun W hW => pImport_any s (by omega) L (-1) 0 hIm W hW)
      have HEnc := Lib.hid hEnc
      clear hEnc hSp hIm hsl HS HNo
      generalize S s = st at *
      go_wp2_with fail
      refine cSp.out.mono ?_
      rintro e w4 ⟨pv, rfl, hn4, hb4⟩
      have HBL := Lib.hid hn4.here
      have B4 := Lib.hid (B3.out.trans (hb4.mono B3.out.size))
      obtain ⟨pa, pc, rfl, -, -⟩ := hn4.here.length
      have hpl : (L.map formX).length = n := by rw [List.length_map, HN.out]
      rw [hpl] at HBL ⊢
      have t0 : ((n : Int) != (n : Int)) = false := by simp
      clear hn4 hb4 hpl cSp B3
      go_wp2
      go_loopw [7] (fun i wr => ∃ k : Nat, i = .int .i64 (k : Int) ∧ k ≤ n ∧ RowKit.Hid (Below w4.heap.size w4 wr)) (fun i _ => n - (intOf i).toNat)
      case atStart => exact ⟨0, rfl, Nat.zero_le _, Below.refl _ _⟩
      case round =>
        obtain ⟨k, rfl, hk, HB⟩ := hrel
        by_cases hkn : k < n
        · have i1 : (0 : Int) ≤ (k : Int) := by omega
          have i2 : (k : Int) < (n : Int) := by omega
          have HBw := Lib.hid (B4.out.trans (HB.out.mono B4.out.size))
          obtain ⟨g, o, cap', u, he, hg, c0, c1, c2, c3, c4, hq⟩ := (HV.out.after HBw.out).at k (by rw [HN.out]; exact hkn)
          obtain ⟨ha, -, hcp⟩ := Value.slice.inj he
          subst ha hcp
          have hLk : L[k]? = some (L.getD k rec0) := by
            rw [List.getD_eq_getElem?_getD, List.getElem?_eq_getElem (by rw [HN.out]; exact hkn)]
            rfl
          have hPk : (L.map formX).getD k [] = formX (L.getD k rec0) := by
            rw [List.getD_eq_getElem?_getD, List.getElem?_map, hLk]
            rfl
          have hokr := HOk.out _ (List.mem_of_getElem? hLk)
          have henc := HEnc.out _ (List.mem_of_getElem? hLk)
          obtain ⟨g2, o2, hae, hg2, hp⟩ : ∃ g o, pa = some ⟨g, o, none⟩ ∧ g < wr.heap.size ∧ wr.cell? ⟨g, o + k, none⟩ = some (.string (S (formX (L.getD k rec0)))) := by
            obtain ⟨a', cap', he, _, _, _, hx⟩ := HBL.out.after HB.out
            obtain ⟨g, o, h1, h2, h3⟩ := hx k (by rw [List.length_map, HN.out]; exact hkn)
            obtain ⟨rfl, -, -⟩ := Value.slice.inj he
            rw [hPk] at h3
            exact ⟨g, o, h1, h2, h3⟩
          subst hae
          obtain ⟨r, hre⟩ : ∃ r, L.getD k rec0 = r := ⟨_, rfl⟩
          rw [hre] at c0 c1 c2 c3 hq hokr henc hp
          have cE := pEncode_any r u wr (HE.out.after HBw.out) hq hokr.1 hokr.2
          have hfl : (formX r).length ≤ 9999 := by
            have := encX_le r
            rw [henc] at this
            exact this
          have cD := fun W hW => pDecode_any (formX r) W hW (by omega)
          rw [(decE_iff (formX r) r).2 henc] at cD
          simp only at cD
          rw [henc] at cE
          simp only at cE
          have cS := fun x y W h1 h2 => refSame08_any r r x y W h1 h2 true ((sameRB_iff r r).2 rfl)
          obtain ⟨ua, uc, hue, -, -⟩ := hq.length
          subst hue
          obtain ⟨ul, hul⟩ : ∃ m, r.fields.length = m := ⟨_, rfl⟩
          obtain ⟨fs, hfs⟩ : ∃ x, S (formX r) = x := ⟨_, rfl⟩
          rw [hfs] at cE cD hp
          rw [hul] at cE c4 hq
          unfold RV at cE cD cS
          have HUl := Lib.hid hul
          have H1 : RowKit.Hid (∀ W, Below wr.heap.size wr W → (W.cell? ⟨g, o + k * 5, none⟩ = some (.int .i64 r.id) ∧ W.cell? ⟨g, o + k * 5 + 1, none⟩ = some (.int .i64 r.ver) ∧ W.cell? ⟨g, o + k * 5 + 2, none⟩ = some (.int .i64 r.kind) ∧ W.cell? ⟨g, o + k * 5 + 3, none⟩ = some (.string (S r.lang)) ∧ W.cell? ⟨g, o + k * 5 + 4, none⟩ = some (.slice ua ul uc)) ∧ FL (.slice ua ul uc) r.fields W) := fun W hW =>
            ⟨⟨(hW.cell (p := ⟨g, o + k * 5, none⟩) hg).trans c0, (hW.cell (p := ⟨g, o + k * 5 + 1, none⟩) hg).trans c1, (hW.cell (p := ⟨g, o + k * 5 + 2, none⟩) hg).trans c2, (hW.cell (p := ⟨g, o + k * 5 + 3, none⟩) hg).trans c3, (hW.cell (p := ⟨g, o + k * 5 + 4, none⟩) hg).trans c4⟩, hq.after hW⟩
          have HP : RowKit.Hid (∀ W, Below wr.heap.size wr W → W.cell? ⟨g2, o2 + k, none⟩ = some (.string fs)) := fun W hW => (hW.cell (p := ⟨g2, o2 + k, none⟩) hg2).trans hp
          replace cE := Lib.hid cE
          replace cD := Lib.hid cD
          replace cS := Lib.hid cS
          clear he hLk hPk hokr henc hre hq hul hfs hfl hp hg hg2
          go_wp2_with fail
          refine cE.out.mono ?_
          rintro e w5 ⟨rfl, hb5⟩
          have HB5 := Lib.hid (HBw.out.trans (hb5.mono HBw.out.size))
          have Hr5 := Lib.hid hb5
          have kp := HP.out w5 Hr5.out
          clear hb5 c0 c1 c2 c3 c4 cE
          go_wp2_with fail
          refine (cD.out w5 (HE.out.after HB5.out)).mono ?_
          rintro e w6 ⟨u6, rfl, hn6, hb6⟩
          obtain ⟨va, vc, rfl, -, -⟩ := hn6.here.length
          rw [HUl.out] at hn6 ⊢
          have hA := (Below.refl w6.heap.size w6).alloc (Nat.le_refl _) (.cells #[.int .i64 r.id, .int .i64 r.ver, .int .i64 r.kind, .string (S r.lang), .slice va ul vc] 24)
          have hbx := heap_alloc_new w6 (.cells #[.int .i64 r.id, .int .i64 r.ver, .int .i64 r.kind, .string (S r.lang), .slice va ul vc] 24)
          have hF6 := hn6.here.after hA
          obtain ⟨W6, hW6⟩ : ∃ W, w6.alloc (.cells #[.int .i64 r.id, .int .i64 r.ver, .int .i64 r.kind, .string (S r.lang), .slice va ul vc] 24) = W := ⟨_, rfl⟩
          rw [hW6] at hA hbx hF6
          obtain ⟨bb, hbb⟩ : ∃ b, w6.heap.size = b := ⟨_, rfl⟩
          have Hr6 := Lib.hid (Hr5.out.trans ((hb6.trans (hA.mono hb6.size)).mono Hr5.out.size))
          have HB6 := Lib.hid (HB.out.trans (Hr6.out.mono HB.out.size))
          rw [hbb] at hbx
          have hlt : bb < W6.heap.size := (Array.getElem?_eq_some_iff.1 hbx).1
          have H2 : RowKit.Hid (∀ W, Below W6.heap.size W6 W → (W.cell? ⟨bb, 0, none⟩ = some (.int .i64 r.id) ∧ W.cell? ⟨bb, 1, none⟩ = some (.int .i64 r.ver) ∧ W.cell? ⟨bb, 2, none⟩ = some (.int .i64 r.kind) ∧ W.cell? ⟨bb, 3, none⟩ = some (.string (S r.lang)) ∧ W.cell? ⟨bb, 4, none⟩ = some (.slice va ul vc)) ∧ FL (.slice va ul vc) r.fields W) := fun W hW =>
            ⟨(rcells ((hW.block bb hlt).trans hbx)).1, hF6.after hW⟩
          replace H1 := Lib.hid (fun W (h : Below W6.heap.size W6 W) => H1.out W (Hr6.out.trans (h.mono Hr6.out.size)))
          replace HP := Lib.hid (fun W (h : Below W6.heap.size W6 W) => HP.out W (Hr6.out.trans (h.mono Hr6.out.size)))
          replace cS := Lib.hid (cS.out (.slice va ul vc) (.slice ua ul uc))
          have HW6 := Lib.hid hW6
          have HBb := Lib.hid hbb
          obtain ⟨⟨x0, x1, x2, x3, x4⟩, -⟩ := rcells hbx
          clear hn6 hb6 hA hbx hF6 hW6 hbb hlt Hr5 HB5 cD kp
          go_upto_region 16 with fail
          rw [HW6.out, HBb.out]
          apply wp_region_rel (R := fun u v => Below u.heap.size u v) (V := [SPR.eq _ (.int .i64 0), SPR.eq _ (.bool false), SPR.eq _ (.bool false), SPR.eq _ (.string fs), SPR.eq _ (.slice (some ⟨g2, o2, none⟩) n pc), SPR.eq _ (.int .i64 (k : Int)), SPR.eq _ (.pointer (some ⟨g2, o2 + k, none⟩)), SPR.eq _ (.string fs), SPR.eq _ (.bool false), SPR.eq _ (.bool false), SPR.eq _ (.bool false), SPR.eq _ (.int .i64 0), SPR.eq _ (.bool false), SPR.eq _ (.bool false), SPR.eq _ (.bool false), SPR.eq _ (.agg #[.int .i64 r.id, .int .i64 r.ver, .int .i64 r.kind, .string (S r.lang), .slice va ul vc]), SPR.eq _ (.slice (some ⟨g, o, none⟩) n cap), SPR.eq _ (.int .i64 (k : Int)), SPR.eq _ (.pointer (some ⟨g, o + k * 5, none⟩)), SPR.eq _ (.agg #[.int .i64 r.id, .int .i64 r.ver, .int .i64 r.kind, .string (S r.lang), .slice ua ul uc]), SPR.eq _ (.bool true), SPR.eq _ (.bool false), SPR.eq _ (.bool false)])
          case htrans => exact fun _ _ _ h k => h.trans (k.mono h.size)
          case hdrew => exact (Below.refl _ _).drew
          case hm => kernel_rfl
          case hd => kernel_rfl
          case hb => kernel_rfl
          case hA =>
            intro vs
            simp only [puts, Act.put, List.setIfInBounds_toArray, List.set_cons_zero, List.set_cons_succ]
            exact rfl
          case hob =>
            refine ObsR.cons _ _ _ _ _ _ _ ?o0 (ObsR.cons _ _ _ _ _ _ _ ?o1 (ObsR.cons _ _ _ _ _ _ _ ?o2 (ObsR.cons _ _ _ _ _ _ _ ?o3 (ObsR.cons _ _ _ _ _ _ _ ?o4 (ObsR.cons _ _ _ _ _ _ _ ?o5 (ObsR.cons _ _ _ _ _ _ _ ?o6 (ObsR.cons _ _ _ _ _ _ _ ?o7 (ObsR.cons _ _ _ _ _ _ _ ?o8 (ObsR.cons _ _ _ _ _ _ _ ?o9 (ObsR.cons _ _ _ _ _ _ _ ?o10 (ObsR.cons _ _ _ _ _ _ _ ?o11 (ObsR.cons _ _ _ _ _ _ _ ?o12 (ObsR.cons _ _ _ _ _ _ _ ?o13 (ObsR.cons _ _ _ _ _ _ _ ?o14 (ObsR.cons _ _ _ _ _ _ _ ?o15 (ObsR.cons _ _ _ _ _ _ _ ?o16 (ObsR.cons _ _ _ _ _ _ _ ?o17 (ObsR.cons _ _ _ _ _ _ _ ?o18 (ObsR.cons _ _ _ _ _ _ _ ?o19 (ObsR.cons _ _ _ _ _ _ _ ?o20 (ObsR.cons _ _ _ _ _ _ _ ?o21 (ObsR.cons _ _ _ _ _ _ _ ?o22 (ObsR.nil _ _ _ _ _ _ _)))))))))))))))))))))))
            case o0 =>
              intro vs W hw hd K hK
              go_simp
              exact hK.out _ _ rfl (Below.refl _ _)
            case o1 =>
              intro vs W hw hd K hK
              have h0 : vs 0 = .int .i64 0 := hd 0 (by kernel_rfl)
              simp only [Nat.reduceAdd, h0] at hK ⊢
              go_simp
              exact hK.out _ _ rfl (Below.refl _ _)
            case o2 =>
              intro vs W hw hd K hK
              have h1 : vs 1 = .bool false := hd 1 (by kernel_rfl)
              simp only [Nat.reduceAdd, h1] at hK ⊢
              go_simp
              exact hK.out _ _ rfl (Below.refl _ _)
            case o3 =>
              intro vs W hw hd K hK
              have h2 : vs 2 = .bool false := hd 2 (by kernel_rfl)
              simp only [Nat.reduceAdd, h2] at hK ⊢
              go_simp
              exact hK.out _ _ rfl (Below.refl _ _)
            case o4 =>
              intro vs W hw hd K hK
              have h2 : vs 2 = .bool false := hd 2 (by kernel_rfl)
              simp only [Nat.reduceAdd, h2] at hK ⊢
              go_simp
              exact hK.out _ _ rfl (Below.refl _ _)
            case o5 =>
              intro vs W hw hd K hK
              have h2 : vs 2 = .bool false := hd 2 (by kernel_rfl)
              simp only [Nat.reduceAdd, h2] at hK ⊢
              go_simp
              exact hK.out _ _ rfl (Below.refl _ _)
            case o6 =>
              intro vs W hw hd K hK
              have h2 : vs 2 = .bool false := hd 2 (by kernel_rfl)
              have h4 : vs 4 = .slice (some ⟨g2, o2, none⟩) n pc := hd 4 (by kernel_rfl)
              have h5 : vs 5 = .int .i64 (k : Int) := hd 5 (by kernel_rfl)
              simp only [Nat.reduceAdd, h2, h4, h5] at hK ⊢
              go_simp
              exact hK.out _ _ rfl (Below.refl _ _)
            case o7 =>
              intro vs W hw hd K hK
              have h2 : vs 2 = .bool false := hd 2 (by kernel_rfl)
              have h6 : vs 6 = .pointer (some ⟨g2, o2 + k, none⟩) := hd 6 (by kernel_rfl)
              have kk := HP.out W hw
              simp only [Nat.reduceAdd, h2, h6] at hK ⊢
              go_simp
              exact hK.out _ _ rfl (Below.refl _ _)
            case o8 =>
              intro vs W hw hd K hK
              have h2 : vs 2 = .bool false := hd 2 (by kernel_rfl)
              have h3 : vs 3 = .string fs := hd 3 (by kernel_rfl)
              have h7 : vs 7 = .string fs := hd 7 (by kernel_rfl)
              simp only [Nat.reduceAdd, h2, h3, h7] at hK ⊢
              go_simp
              exact hK.out _ _ rfl (Below.refl _ _)
            case o9 =>
              intro vs W hw hd K hK
              have h2 : vs 2 = .bool false := hd 2 (by kernel_rfl)
              have h8 : vs 8 = .bool false := hd 8 (by kernel_rfl)
              simp only [Nat.reduceAdd, h2, h8] at hK ⊢
              go_simp
              exact hK.out _ _ rfl (Below.refl _ _)
            case o10 =>
              intro vs W hw hd K hK
              have h9 : vs 9 = .bool false := hd 9 (by kernel_rfl)
              simp only [Nat.reduceAdd, h9] at hK ⊢
              go_simp
              exact hK.out _ _ rfl (Below.refl _ _)
            case o11 =>
              intro vs W hw hd K hK
              have h10 : vs 10 = .bool false := hd 10 (by kernel_rfl)
              simp only [Nat.reduceAdd, h10] at hK ⊢
              go_simp
              exact hK.out _ _ rfl (Below.refl _ _)
            case o12 =>
              intro vs W hw hd K hK
              have h10 : vs 10 = .bool false := hd 10 (by kernel_rfl)
              have h11 : vs 11 = .int .i64 0 := hd 11 (by kernel_rfl)
              simp only [Nat.reduceAdd, h10, h11] at hK ⊢
              go_simp
              exact hK.out _ _ rfl (Below.refl _ _)
            case o13 =>
              intro vs W hw hd K hK
              have h10 : vs 10 = .bool false := hd 10 (by kernel_rfl)
              have h12 : vs 12 = .bool false := hd 12 (by kernel_rfl)
              simp only [Nat.reduceAdd, h10, h12] at hK ⊢
              go_simp
              exact hK.out _ _ rfl (Below.refl _ _)
            case o14 =>
              intro vs W hw hd K hK
              have h13 : vs 13 = .bool false := hd 13 (by kernel_rfl)
              simp only [Nat.reduceAdd, h13] at hK ⊢
              go_simp
              exact hK.out _ _ rfl (Below.refl _ _)
            case o15 =>
              intro vs W hw hd K hK
              have h14 : vs 14 = .bool false := hd 14 (by kernel_rfl)
              obtain ⟨⟨k0, k1, k2, k3, k4⟩, -⟩ := H2.out W hw
              simp only [Nat.reduceAdd, h14] at hK ⊢
              go_simp
              exact hK.out _ _ rfl (Below.refl _ _)
            case o16 =>
              intro vs W hw hd K hK
              have h14 : vs 14 = .bool false := hd 14 (by kernel_rfl)
              simp only [Nat.reduceAdd, h14] at hK ⊢
              go_simp
              exact hK.out _ _ rfl (Below.refl _ _)
            case o17 =>
              intro vs W hw hd K hK
              have h14 : vs 14 = .bool false := hd 14 (by kernel_rfl)
              simp only [Nat.reduceAdd, h14] at hK ⊢
              go_simp
              exact hK.out _ _ rfl (Below.refl _ _)
            case o18 =>
              intro vs W hw hd K hK
              have h14 : vs 14 = .bool false := hd 14 (by kernel_rfl)
              have h16 : vs 16 = .slice (some ⟨g, o, none⟩) n cap := hd 16 (by kernel_rfl)
              have h17 : vs 17 = .int .i64 (k : Int) := hd 17 (by kernel_rfl)
              simp only [Nat.reduceAdd, h14, h16, h17] at hK ⊢
              go_simp
              exact hK.out _ _ rfl (Below.refl _ _)
            case o19 =>
              intro vs W hw hd K hK
              have h14 : vs 14 = .bool false := hd 14 (by kernel_rfl)
              have h18 : vs 18 = .pointer (some ⟨g, o + k * 5, none⟩) := hd 18 (by kernel_rfl)
              obtain ⟨⟨k0, k1, k2, k3, k4⟩, -⟩ := H1.out W hw
              simp only [Nat.reduceAdd, h14, h18] at hK ⊢
              go_simp
              exact hK.out _ _ rfl (Below.refl _ _)
            case o20 =>
              intro vs W hw hd K hK
              have h14 : vs 14 = .bool false := hd 14 (by kernel_rfl)
              have h15 : vs 15 = .agg #[.int .i64 r.id, .int .i64 r.ver, .int .i64 r.kind, .string (S r.lang), .slice va ul vc] := hd 15 (by kernel_rfl)
              have h19 : vs 19 = .agg #[.int .i64 r.id, .int .i64 r.ver, .int .i64 r.kind, .string (S r.lang), .slice ua ul uc] := hd 19 (by kernel_rfl)
              simp only [Nat.reduceAdd, h14, h15, h19] at hK ⊢
              go_simp
              refine (cS.out W (H2.out W hw).2 (H1.out W hw).2).mono ?_
              rintro e W' ⟨rfl, hb'⟩
              exact hK.out _ _ rfl hb'
            case o21 =>
              intro vs W hw hd K hK
              have h14 : vs 14 = .bool false := hd 14 (by kernel_rfl)
              have h20 : vs 20 = .bool true := hd 20 (by kernel_rfl)
              simp only [Nat.reduceAdd, h14, h20] at hK ⊢
              go_simp
              exact hK.out _ _ rfl (Below.refl _ _)
            case o22 =>
              intro vs W hw hd K hK
              have h14 : vs 14 = .bool false := hd 14 (by kernel_rfl)
              have h21 : vs 21 = .bool false := hd 21 (by kernel_rfl)
              simp only [Nat.reduceAdd, h14, h21] at hK ⊢
              go_simp
              exact hK.out _ _ rfl (Below.refl _ _)
          case hfin =>
            intro vs W hw hv'
            have e22 : vs 22 = .bool false := hv' 22 (by decide)
            simp only [Nat.reduceAdd, e22]
            have HB2 := Lib.hid (HB6.out.trans (hw.mono HB6.out.size))
            clear hv' hw e22
            go_wp2
            go_roundw
            case rel => exact ⟨k + 1, by go_num, by omega, HB2⟩
            case measure => simp [intOf]; omega
        · obtain rfl : k = n := by omega
          have HBw := Lib.hid (B4.out.trans (HB.out.mono B4.out.size))
          have c5 := Lib.hid (cI.out wr (HE.out.after HBw.out))
          clear cI
          go_wp2_with fail
          refine c5.out.mono ?_
          rintro e w5 ⟨v5, rfl, hn5, hb5⟩
          have H5 := Lib.hid hn5.here
          have B5 := Lib.hid (HBw.out.trans (hb5.mono HBw.out.size))
          obtain ⟨a5, cap5, rfl, -, -⟩ := hn5.here.length
          rw [HN.out] at H5 ⊢
          clear hn5 hb5 c5
          go_wp2_with fail
          refine (cM.out _ _ w5 H5.out (HV.out.after B5.out)).mono ?_
          rintro e w6 ⟨rfl, hb6⟩
          have BF := Lib.hid (B5.out.trans (hb6.mono B5.out.size))
          clear hb6 cM
          go_wp2
          first | exact HQ.out _ _ ⟨rfl, BF.out⟩ | (go_ret; exact HQ.out _ _ ⟨rfl, BF.out⟩)
    · have hs0 := HNo.out h0
      subst hs0
      have t3 : (er != 0) = true := by simpa using h0
      have e0 : S [] = ⟨#[]⟩ := rfl
      rw [e0]
      clear HS HNo h0 e0
      go_wp2
      first | exact HQ.out _ _ ⟨rfl, B3.out⟩ | (go_ret; exact HQ.out _ _ ⟨rfl, B3.out⟩)
end

end Go.Proofs.YtiledacfdaenbaaDoor
