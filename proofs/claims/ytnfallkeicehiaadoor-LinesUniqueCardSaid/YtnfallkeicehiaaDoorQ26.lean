/- Merged: Ri11. -/
import Derived.Test.YtnfallkeicehiaaDoorQ25
import Derived.Test.YtnfallkeicehiaaDoorQ13
import Derived.Deep.RegionLaw
import Derived.RegionTactic
import Derived.BigRegion
namespace Go.Proofs.YtnfallkeicehiaaDoor

section
open Go.RowKit Go.PlainAid
theorem rec0_cells {w : World} {b : Nat} (h : w.heap[b]? = some (.cells #[.int .i64 0, .int .i64 0, .int .i64 0, .string ⟨#[]⟩, .slice none 0 0] 24 (0, 0))) : RCells b 0 0 0 ⟨#[]⟩ (.slice none 0 0) w := rcells h
set_option maxHeartbeats 16000000 in
set_option maxRecDepth 100000 in
theorem readHeader_any (l : List UInt8) (hl : l.length ≤ 1000000) (q : Rec) (b : Bool) (hq : hdrV l = (q, b)) (w : World) (hE : Env w) :
    Calls Tryd.prog 31 #[.string (S l)] w fun e w' => e = .returned (.tuple #[RV q (.slice none 0 0), .bool b]) ∧ Below w.heap.size w w' := by
  obtain ⟨Q, hQ⟩ : ∃ Q, (fun (e : Ending) (w' : World) => e = .returned (.tuple #[RV q (.slice none 0 0), .bool b]) ∧ Below w.heap.size w w') = Q := ⟨_, rfl⟩
  rw [hQ]
  obtain ⟨W0, hW0⟩ : ∃ W0, w.alloc (.cells #[.int .i64 0, .int .i64 0, .int .i64 0, .string ⟨#[]⟩, .slice none 0 0] 24) = W0 := ⟨_, rfl⟩
  have b0 : Below w.heap.size w W0 := by rw [← hW0]; exact (Below.refl w.heap.size w).alloc (Nat.le_refl _) _
  have hR0 : W0.heap[w.heap.size]? = some (.cells #[.int .i64 0, .int .i64 0, .int .i64 0, .string ⟨#[]⟩, .slice none 0 0] 24 (0, 0)) := by rw [← hW0]; exact heap_alloc_new w _
  have hlt0 : w.heap.size < W0.heap.size := by rw [← hW0]; simp
  have HBox := Lib.hid (fun (W : World) (h : Below W0.heap.size W0 W) => (h.block w.heap.size hlt0).trans hR0)
  have HBel := Lib.hid (fun (W : World) (h : Below W0.heap.size W0 W) => b0.trans (h.mono b0.size))
  have HE := Lib.hid (fun (W : World) (h : Below W0.heap.size W0 W) => (hE.after b0).after h)
  have HW0 := Lib.hid hW0
  have HNo : RowKit.Hid (hdrO l = none → ∀ W, Below w.heap.size w W → Q (.returned (.tuple #[.agg #[.int .i64 0, .int .i64 0, .int .i64 0, .string ⟨#[]⟩, .slice none 0 0], .bool false])) W) := by
    intro h W hW
    rw [hdrV_none l h] at hq
    obtain ⟨rfl, rfl⟩ := Prod.mk.inj hq
    rw [← hQ]
    exact ⟨rfl, hW⟩
  have HYes : RowKit.Hid (∀ r, hdrO l = some r → ∀ W, Below w.heap.size w W → Q (.returned (.tuple #[.agg #[.int .i64 r.id, .int .i64 r.ver, .int .i64 r.kind, .string (S r.lang), .slice none 0 0], .bool true])) W) := by
    intro r h W hW
    rw [hdrV_some l r h] at hq
    obtain ⟨rfl, rfl⟩ := Prod.mk.inj hq
    rw [← hQ]
    exact ⟨rfl, hW⟩
  have hrl := restH_le l
  have cT := Lib.hid (cTrimP l [61] W0)
  have cS := Lib.hid (cSplitN (restH l) 32 4 (by decide) (by decide) (by omega) W0 (hE.after b0))
  have HSeq := Lib.hid (fun x => S_eq x l)
  have HFew := Lib.hid (hdr_few l)
  have HYe := Lib.hid (hdr_yes l)
  have HNt := Lib.hid (hdr_not l)
  have HLe := Lib.hid (partsH_le l)
  have HMem := Lib.hid (fun x h => Nat.le_trans (partsH_mem l x h) hl)
  have cT2 : RowKit.Hid (Calls Tryd.prog 41 #[.string (S l), .string ⟨#[61]⟩] W0 fun e w' => e = .returned (.string (S (restH l))) ∧ w' = W0) := cT.out
  have cS2 : RowKit.Hid (Calls Tryd.prog 40 #[.string (S (restH l)), .string ⟨#[32]⟩, .int .i64 4] W0 fun e w' => ∃ P : List (List UInt8), P = partsH l ∧ ∃ N, P.length ≤ N ∧ N ≤ 100 ∧
      e = .returned (.slice (some ⟨W0.heap.size, 0, none⟩) P.length N) ∧ w' = W0.alloc (.cells (P.map strB ++ List.replicate (N - P.length) (Value.string ⟨#[]⟩)).toArray 9)) := cS.out
  clear hq hQ hW0 b0 hR0 hE hlt0 hrl cT cS hl
  generalize S l = s at *
  generalize S (restH l) = rs at *
  go_enter Tryd.func31, Tryd.ntmps31
  go_upto_region 1 with fail
  rw [HW0.out]
  clear HW0
  go_wp2_with fail
  refine cT2.out.mono ?_
  rintro e w1 ⟨rfl, hw1⟩
  rw [hw1]
  clear hw1 cT2
  go_wp2_with fail
  refine cS2.out.mono ?_
  rintro e w1 ⟨P, hP, N, hPN, hN, rfl, hw1⟩
  rw [hw1]
  clear hw1 cS2 w1
  obtain ⟨V, hV⟩ : ∃ V, W0.alloc (.cells (P.map strB ++ List.replicate (N - P.length) (Value.string ⟨#[]⟩)).toArray 9) = V := ⟨_, rfl⟩
  have hbV : Below W0.heap.size W0 V := by rw [← hV]; exact (Below.refl _ _).alloc (Nat.le_refl _) _
  have hVn : V.heap[W0.heap.size]? = some (.cells (P.map strB ++ List.replicate (N - P.length) (Value.string ⟨#[]⟩)).toArray 9 (0, 0)) := by rw [← hV]; exact heap_alloc_new W0 _
  have hltB : W0.heap.size < V.heap.size := by rw [← hV]; simp
  rw [hV]
  clear hV
  obtain ⟨B, hBB⟩ : ∃ B, W0.heap.size = B := ⟨_, rfl⟩
  rw [hBB] at hVn hltB ⊢
  have HBV := Lib.hid hbV
  by_cases hfew : P.length < 4
  · have hno := HNo.out (HFew.out (by rw [← hP]; exact hfew))
    obtain ⟨n, hn⟩ : ∃ n, P.length = n := ⟨_, rfl⟩
    rw [hn] at hfew ⊢
    have t1 : decide ((n : Int) < 4) = true := decide_eq_true (by omega)
    have t1n : decide (n < 4) = true := decide_eq_true hfew
    have hbx := HBox.out V hbV
    have hfin := Lib.hid (rec_set5 (x0 := .int .i64 0) (x1 := .int .i64 0) (x2 := .int .i64 0) (x3 := .string ⟨#[]⟩) (x4 := .slice none 0 0) hbx)
    have hbb := Lib.hid (rec_below (x0 := .int .i64 0) (x1 := .int .i64 0) (x2 := .int .i64 0) (x3 := .string ⟨#[]⟩) (x4 := .slice none 0 0) (HBel.out V hbV))
    unfold setR5 at hfin hbb
    obtain ⟨⟨r0, r1, r2, r3, r4⟩, g0, g1, g2, g3, g4⟩ := rcells hbx
    have HNo2 := Lib.hid hno
    clear hno hn hP hPN hfew hbV hVn hltB hbx HBel HBox HNo HYes HFew HYe HNt HMem HSeq HE hBB HBV
    go_wp2
    (try simp only [Exit.inBlock, Exit.then])
    refine bodyPost_ret (results_row_tmp10 rfl _ _ w.heap.size _ _ _ _ rfl hfin.out Tryd.underlying24 rfl (by kernel_rfl)) rfl ?_
    exact HNo2.out _ hbb.out
  have h4 : P.length = 4 := by
    have := HLe.out
    rw [← hP] at this
    omega
  obtain ⟨a, p1, c, d, rfl⟩ : ∃ a p1 c d, P = [a, p1, c, d] := by
    match P, h4 with
    | [a, p1, c, d], _ => exact ⟨a, p1, c, d, rfl⟩
  have hla := HMem.out a (by rw [← hP]; simp)
  have hlb := HMem.out p1 (by rw [← hP]; simp)
  have hlc := HMem.out c (by rw [← hP]; simp)
  have hld := HMem.out d (by rw [← hP]; simp)
  have cA := Lib.hid (fun W hE => cAtoi a hla W hE)
  have cB := Lib.hid (fun W hE => cAtoi p1 hlb W hE)
  obtain ⟨rr, hrr⟩ : ∃ rr, recH a p1 c d = rr := ⟨_, rfl⟩
  have HRr := Lib.hid hrr
  have HNt2 := Lib.hid (HNt.out a p1 c d hP.symm)
  have HYe2 := Lib.hid (HYe.out a p1 c d)
  rw [hrr] at HNt2 HYe2
  have hid : rr.id = atoiV a := by rw [← hrr]; rfl
  have hver : rr.ver = atoiV p1 := by rw [← hrr]; rfl
  have hkd : rr.kind = kindN c := by rw [← hrr]; rfl
  have hlg : rr.lang = d := by rw [← hrr]; rfl
  have hfd : rr.fields = [] := by rw [← hrr]; rfl
  have HCells : RowKit.Hid (∀ W, Below V.heap.size V W → W.cell? ⟨B, 0, none⟩ = some (.string (S a)) ∧ W.cell? ⟨B, 1, none⟩ = some (.string (S p1)) ∧ W.cell? ⟨B, 2, none⟩ = some (.string (S c)) ∧ W.cell? ⟨B, 3, none⟩ = some (.string (S rr.lang))) := by
    intro W hW
    have := (hW.block B hltB).trans hVn
    rw [hlg]
    refine ⟨?_, ?_, ?_, ?_⟩ <;> (rw [Lib.cell_of_heap this]; rfl)
  have cK := Lib.hid (fun W (h : KT W) => kindOf_any c rr.kind hkd.symm W h)
  rw [← hid] at cA
  rw [← hver] at cB
  have cR := fun u W (hE : Env W) (hu : FL u rr.fields W) => pRight_any rr u W hE hu (by rw [hlg]; unfold maxLen; omega) (fun i hi => by rw [hfd] at hi; cases hi) (rightRI rr) rfl
  have cH := fun (h : rightRI rr = 0) W hE => header_any rr none 0 0 h W hE
  have cR2 := Lib.hid (fun W (hE : Env W) => cR (.slice none 0 0) W hE (by rw [hfd]; exact (fl_none 0 W).here))
  unfold RV at cR2 cH
  have cH2 := Lib.hid cH
  have HVE := Lib.hid (fun W (h : Below V.heap.size V W) => HE.out W (hbV.trans (h.mono hbV.size)))
  have HVB := Lib.hid (fun W (h : Below V.heap.size V W) => HBox.out W (hbV.trans (h.mono hbV.size)))
  have HVL := Lib.hid (fun W (h : Below V.heap.size V W) => HBel.out W (hbV.trans (h.mono hbV.size)))
  obtain ⟨re, hre⟩ : ∃ re, rightRI rr = re := ⟨_, rfl⟩
  rw [hre] at cR2 cH2 HNt2 HYe2
  have HSe := Lib.hid (HSeq.out (hdrR rr))
  have hNN : 4 ≤ N := by simpa using hPN
  have e4 : [a, p1, c, d].length = 4 := rfl
  rw [e4]
  have HLtB := Lib.hid hltB
  clear h4 hfew e4 hP hPN hla hlb hlc hld hrr hid hver hkd hlg hfd HRr HNt HYe HFew HMem HSeq hre hbV hVn hltB HBel HBox HE HBV hBB cR cH
  generalize S a = xa at *
  generalize S p1 = xb at *
  generalize S c = xc at *
  obtain ⟨xd, hxd⟩ : ∃ x, S rr.lang = x := ⟨_, rfl⟩
  rw [hxd] at HCells cR2 cH2
  have HXd := Lib.hid hxd
  clear hxd
  generalize S (hdrR rr) = xh at *
  obtain ⟨k0, k1, k2, k3⟩ := HCells.out V (Below.refl _ _)
  go_wp2_with fail
  refine (cA.out V (HVE.out V (Below.refl _ _))).mono ?_
  rintro e w1 ⟨er1, rfl, hb1⟩
  have B1 := Lib.hid hb1
  clear hb1 cA k0 k1 k2 k3
  obtain ⟨k0, k1, k2, k3⟩ := HCells.out w1 B1.out
  go_wp2_with fail
  refine (cB.out w1 (HVE.out w1 B1.out)).mono ?_
  rintro e w2 ⟨er2, rfl, hb2⟩
  have B2 := Lib.hid (B1.out.trans (hb2.mono B1.out.size))
  clear hb2 cB k0 k1 k2 k3 B1
  obtain ⟨k0, k1, k2, k3⟩ := HCells.out w2 B2.out
  have HKT := Lib.hid (HVE.out w2 B2.out).kin
  have HKA := Lib.hid (HKT.out.after ((Below.refl w2.heap.size w2).alloc (Nat.le_refl _) (.cells #[.int .i64 0, .int .i64 0, .int .i64 0, .string ⟨#[]⟩, .slice none 0 0] 24)))
  have hltw : B < w2.heap.size := Nat.lt_of_lt_of_le HLtB.out B2.out.size
  go_upto_region 6 with fail
  go_cut [9] from 31 to 40 (fun p wx => p = .pointer (some ⟨w2.heap.size, 0, none⟩) ∧ wx = (w2.alloc (.cells #[.int .i64 rr.id, .int .i64 rr.ver, .int .i64 rr.kind, .string xd, .slice none 0 0] 24)).drew)
  case first =>
    go_region_law (first
      | (go_simp; go_at_call 43; refine (cK.out _ ?_).mono ?_; (first | exact ⟨HKT.out.1, HKT.out.2⟩ | exact ⟨HKA.out.1, HKA.out.2⟩); rintro e W8 ⟨rfl, hw8⟩; rw [hw8]; clear hw8))
    all_goals
      go_wp2_with fail
      go_meet
      exact ⟨rfl, rfl⟩
  case rest =>
    obtain ⟨rfl, hwx⟩ := hcut
    rw [hwx]
    clear hwx k0 k1 k2 k3 HKT HKA cK hltw
    have hA := (Below.refl w2.heap.size w2).alloc (Nat.le_refl _) (.cells #[.int .i64 rr.id, .int .i64 rr.ver, .int .i64 rr.kind, .string xd, .slice none 0 0] 24)
    have hbx := heap_alloc_new w2 (.cells #[.int .i64 rr.id, .int .i64 rr.ver, .int .i64 rr.kind, .string xd, .slice none 0 0] 24)
    have B3 := Lib.hid (B2.out.trans (hA.drew.mono B2.out.size))
    obtain ⟨V3, hV3⟩ : ∃ W, (w2.alloc (.cells #[.int .i64 rr.id, .int .i64 rr.ver, .int .i64 rr.kind, .string xd, .slice none 0 0] 24)).drew = W := ⟨_, rfl⟩
    have hbx3 : V3.heap[w2.heap.size]? = some (.cells #[.int .i64 rr.id, .int .i64 rr.ver, .int .i64 rr.kind, .string xd, .slice none 0 0] 24 (0, 0)) := by rw [← hV3]; exact hbx
    rw [hV3] at B3 ⊢
    obtain ⟨bx, hbb⟩ : ∃ b, w2.heap.size = b := ⟨_, rfl⟩
    rw [hbb] at hbx3 ⊢
    have hlt3 : bx < V3.heap.size := (Array.getElem?_eq_some_iff.1 hbx3).1
    have HX := Lib.hid (fun W (h : Below V3.heap.size V3 W) => rcells ((h.block bx hlt3).trans hbx3))
    clear hA hbx hV3 hbb hbx3 hlt3 B2
    obtain ⟨⟨r0, r1, r2, r3, r4⟩, -⟩ := HX.out V3 (Below.refl _ _)
    go_wp2_with fail
    refine (cR2.out V3 (HVE.out V3 B3.out)).mono ?_
    rintro e w4 ⟨rfl, hb4⟩
    have B4 := Lib.hid (B3.out.trans (hb4.mono B3.out.size))
    have X4 := Lib.hid hb4
    clear hb4 r0 r1 r2 r3 r4 cR2
    have HBad : RowKit.Hid (¬ (re = 0 ∧ hdrR rr = l) → ∀ W, Below V.heap.size V W → Q (.returned (.tuple #[.agg #[.int .i64 0, .int .i64 0, .int .i64 0, .string ⟨#[]⟩, .slice none 0 0], .bool false])) (setR5 W w.heap.size (.int .i64 0) (.int .i64 0) (.int .i64 0) (.string ⟨#[]⟩) (.slice none 0 0)) ∧ (setR5 W w.heap.size (.int .i64 0) (.int .i64 0) (.int .i64 0) (.string ⟨#[]⟩) (.slice none 0 0)).heap[w.heap.size]? = some (.cells #[.int .i64 0, .int .i64 0, .int .i64 0, .string ⟨#[]⟩, .slice none 0 0] 24 (0, 0))) := fun h W hW =>
      ⟨HNo.out (HNt2.out h) _ (rec_below (HVL.out W hW)), rec_set5 (HVB.out W hW)⟩
    unfold setR5 at HBad
    by_cases h0 : re = 0
    · have c5 := Lib.hid (cH2.out h0 w4 (HVE.out w4 B4.out))
      have HYe3 := Lib.hid (HYe2.out h0)
      subst h0
      obtain ⟨⟨r0, r1, r2, r3, r4⟩, -⟩ := HX.out w4 X4.out
      go_wp2_with fail
      refine c5.out.mono ?_
      rintro e w5 ⟨rfl, hb5⟩
      have B5 := Lib.hid (B4.out.trans (hb5.mono B4.out.size))
      have X5 := Lib.hid (X4.out.trans (hb5.mono X4.out.size))
      clear hb5 r0 r1 r2 r3 r4 c5 cH2
      by_cases hq : hdrR rr = l
      · have hse := HSe.out
        rw [decide_eq_true hq] at hse
        have hyes := HYes.out rr (HYe3.out hq)
        have hbx := HVB.out w5 B5.out
        have hfin := Lib.hid (rec_set5 (x0 := .int .i64 rr.id) (x1 := .int .i64 rr.ver) (x2 := .int .i64 rr.kind) (x3 := .string xd) (x4 := .slice none 0 0) hbx)
        have hbb := Lib.hid (rec_below (x0 := .int .i64 rr.id) (x1 := .int .i64 rr.ver) (x2 := .int .i64 rr.kind) (x3 := .string xd) (x4 := .slice none 0 0) (HVL.out w5 B5.out))
        rw [HXd.out] at hyes
        have HY := Lib.hid hyes
        unfold setR5 at hfin hbb
        obtain ⟨⟨r0, r1, r2, r3, r4⟩, -⟩ := HX.out w5 X5.out
        obtain ⟨⟨y0, y1, y2, y3, y4⟩, g0, g1, g2, g3, g4⟩ := rcells hbx
        clear hq hyes hbx HBad HSe HYe2 HNt2 HYes HNo
        go_wp2
        (try simp only [Exit.inBlock, Exit.then])
        refine bodyPost_ret (results_row_tmp10 rfl _ _ w.heap.size _ _ _ _ rfl hfin.out Tryd.underlying24 rfl (by kernel_rfl)) rfl ?_
        exact HY.out _ hbb.out
      · have hse := HSe.out
        rw [decide_eq_false hq] at hse
        have hbad := Lib.hid (HBad.out (fun h => hq h.2) w5 B5.out)
        obtain ⟨⟨y0, y1, y2, y3, y4⟩, g0, g1, g2, g3, g4⟩ := rcells (HVB.out w5 B5.out)
        clear hq HBad HSe HYe2 HNt2 HYes HNo
        go_wp2
        (try simp only [Exit.inBlock, Exit.then])
        refine bodyPost_ret (results_row_tmp10 rfl _ _ w.heap.size _ _ _ _ rfl hbad.out.2 Tryd.underlying24 rfl (by kernel_rfl)) rfl ?_
        exact hbad.out.1
    · have t0 : (re != 0) = true := by simpa using h0
      have hbad := Lib.hid (HBad.out (fun h => h0 h.1) w4 B4.out)
      obtain ⟨⟨y0, y1, y2, y3, y4⟩, g0, g1, g2, g3, g4⟩ := rcells (HVB.out w4 B4.out)
      clear h0 HBad HSe HYe2 HNt2 HYes HNo cH2
      go_wp2
      (try simp only [Exit.inBlock, Exit.then])
      refine bodyPost_ret (results_row_tmp10 rfl _ _ w.heap.size _ _ _ _ rfl hbad.out.2 Tryd.underlying24 rfl (by kernel_rfl)) rfl ?_
      exact hbad.out.1
end

end Go.Proofs.YtnfallkeicehiaaDoor
