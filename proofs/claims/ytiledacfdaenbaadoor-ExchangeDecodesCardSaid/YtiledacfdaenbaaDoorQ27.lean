/- Merged: RE10. -/
import Derived.Test.YtiledacfdaenbaaDoorQ25
import Derived.Test.YtiledacfdaenbaaDoorQ17
import Derived.Test.YtiledacfdaenbaaDoorQ08
import Derived.Test.YtiledacfdaenbaaDoorQ26
import Derived.Laws.IdiomStrings
namespace Go.Proofs.YtiledacfdaenbaaDoor

section
open Go.RowKit Go.PlainAid
/-- A new slice of one byte. -/
def SPR.byte (c : UInt8) : SPR (fun u v => Below u.heap.size u v) := ⟨fun v w => ∃ g, v = .slice (some ⟨g, 0, none⟩) 1 1 ∧ w.heap[g]? = some (.cells #[.int .u8 (c.toNat : Int)] 5 (0, 0)),
  fun _ w _ h b => by
    obtain ⟨g, h1, h2⟩ := h
    exact ⟨g, h1, (b.block g (Array.getElem?_eq_some_iff.1 h2).1).trans h2⟩⟩

theorem conv_one (W : World) (g : Nat) (c : UInt8) (h : W.heap[g]? = some (.cells #[.int .u8 (c.toNat : Int)] 5 (0, 0))) :
    (convert 53 9 (.slice (some ⟨g, 0, none⟩) 1 1)).run Tryd.prog W = .ok (.string (S [c])) W :=
  run_convert_bytes_back W _ _ 5 ⟨g, 0, none⟩ 1 [c] Tryd.underlying53 Tryd.underlying5 Tryd.underlying9 (fun j hj => by
    have : j = 0 := by simp at hj; omega
    subst this
    rw [show (⟨g, 0, none⟩ : Addr).add 0 = ⟨g, 0, none⟩ from rfl, Lib.cell_of_heap h]
    rfl)

set_option maxHeartbeats 16000000 in
set_option maxRecDepth 100000 in
theorem refEncode_any (r : Rec) (u : Value) (w : World) (hu : FL u r.fields w) (hz : ∀ i, i < r.fields.length → ∀ j, j < (r.fields.getD i fd0).subs.length → ((r.fields.getD i fd0).subs.getD j sub0).2.length ≤ 1000000) :
    Calls Tryd.prog 11 #[RV r u] w fun e w' => e = .returned (.tuple #[.string (S (encX r).1), .int .i64 (encX r).2]) ∧ Below w.heap.size w w' := by
  obtain ⟨er, her⟩ : ∃ er, rightRI r = er := ⟨_, rfl⟩
  obtain ⟨⟨rs, re⟩, hre⟩ : ∃ x, encX r = x := ⟨_, rfl⟩
  rw [hre]
  obtain ⟨Q, hQ⟩ : ∃ Q, (fun (e : Ending) (w' : World) => e = .returned (.tuple #[.string (S (rs, re).1), .int .i64 (rs, re).2]) ∧ Below w.heap.size w w') = Q := ⟨_, rfl⟩
  rw [hQ]
  have HQ : RowKit.Hid (∀ e w', (e = .returned (.tuple #[.string (S rs), .int .i64 re]) ∧ Below w.heap.size w w') → Q e w') := by rw [← hQ]; exact fun _ _ h => h
  clear hQ
  have cR := fun W hu => refRight08_any r u W hu hz er her
  have HU := Lib.hid hu
  obtain ⟨ua, uc, hue, -, hmax⟩ := hu.length
  unfold maxLen at hmax
  subst hue
  unfold RV at cR ⊢
  obtain ⟨un, hun⟩ : ∃ n, r.fields.length = n := ⟨_, rfl⟩
  rw [hun] at cR HU ⊢
  have HN := Lib.hid hun
  obtain ⟨W0, hW0⟩ : ∃ W0, w.alloc (.cells #[.int .i64 r.id, .int .i64 r.ver, .int .i64 r.kind, .string (S r.lang), .slice ua un uc] 24) = W0 := ⟨_, rfl⟩
  have b0 : Below w.heap.size w W0 := by rw [← hW0]; exact (Below.refl w.heap.size w).alloc (Nat.le_refl _) _
  have hR0 : W0.heap[w.heap.size]? = some (.cells #[.int .i64 r.id, .int .i64 r.ver, .int .i64 r.kind, .string (S r.lang), .slice ua un uc] 24 (0, 0)) := by rw [← hW0]; exact heap_alloc_new w _
  have hlt0 : w.heap.size < W0.heap.size := by rw [← hW0]; simp
  have HU0 := Lib.hid (HU.out.after b0)
  have c := Lib.hid (cR W0 HU0.out)
  have B0 := Lib.hid b0
  have HW0 := Lib.hid hW0
  have HR0 := Lib.hid hR0
  obtain ⟨⟨r0, r1, r2, r3, r4⟩, -⟩ := rcells hR0
  clear hW0 b0 hR0 hu HU cR hz
  go_enter Tryd.func11, Tryd.ntmps11
  go_upto_region 1 with fail
  rw [HW0.out]
  go_wp2_with fail
  refine c.out.mono ?_
  rintro e w1 ⟨rfl, hb1⟩
  have HU1 := Lib.hid (HU0.out.after hb1)
  have B1 := Lib.hid (B0.out.trans (hb1.mono B0.out.size))
  have HR1 := Lib.hid ((hb1.block w.heap.size hlt0).trans HR0.out)
  have hlt1 : w.heap.size < w1.heap.size := Nat.lt_of_lt_of_le hlt0 hb1.size
  clear hb1 c r0 r1 r2 r3 r4 HR0 HU0 HW0
  by_cases h0 : er = 0
  · subst h0
    obtain ⟨a0, a1, a2, a3, a4, a5, a6, h64, hfr⟩ := right_rec r her
    have htot := totX_le r her
    have HDl := Lib.hid (fun k => dirX_le (r.fields.take k) 0 (take_right hfr k) (by rw [List.length_take]; omega))
    have HBl := Lib.hid (fun k => bodX_le (r.fields.take k) (take_right hfr k))
    have HBody := Lib.hid (fun k (hk : k < un) => bodX_snoc r.fields k (by omega))
    have HDir := Lib.hid (fun k (hk : k < un) => dirX_snoc r.fields k (by omega))
    have HFr := Lib.hid (fun k (hk : k < un) => hfr (r.fields.getD k fd0) (by rw [List.getD_eq_getElem?_getD, List.getElem?_eq_getElem (by omega)]; exact List.getElem_mem _))
    have HRe : RowKit.Hid ((if 9999 < totX r.fields then ([], 4) else (formX r, 0)) = (rs, re)) := by
      unfold RowKit.Hid
      rw [← hre]
      unfold encX
      rw [if_neg (show ¬ rightRI r ≠ 0 from fun h => h her)]
    have h64' : un ≤ 64 := by omega
    have h3 := lang_len _ a6
    have HVal := Lib.hid (And.intro a0 (And.intro a1 (And.intro a2 (And.intro a3 (And.intro a4 a5)))))
    have H64 := Lib.hid h64'
    have HTot := Lib.hid htot
    have HLang := Lib.hid h3
    clear hfr her hre a0 a1 a2 a3 a4 a5 a6 h64 htot h3 hun
    obtain ⟨⟨r0, r1, r2, r3, r4⟩, -⟩ := rcells HR1.out
    clear r0 r1 r2 r3
    go_wp2
    clear r4
    go_loopw [5, 6, 7] (fun dv bv i wr => ∃ (k : Nat) (D B : List UInt8), dv = .string (S D) ∧ bv = .string (S B) ∧ i = .int .i64 (k : Int) ∧ k ≤ un ∧ RowKit.Hid (dirX 0 (r.fields.take k) = D) ∧ RowKit.Hid (bodX (r.fields.take k) = B) ∧ RowKit.Hid (Below w1.heap.size w1 wr)) (fun _ _ i _ => un - (intOf i).toNat)
    case atStart => exact ⟨0, [], [], rfl, rfl, rfl, Nat.zero_le _, rfl, rfl, Below.refl _ _⟩
    case round =>
      obtain ⟨k, DD, BB, rfl, rfl, rfl, hk, HDD, HBB, HB⟩ := hrel
      have hbr := (HB.out.block w.heap.size hlt1).trans HR1.out
      obtain ⟨⟨r0, r1, r2, r3, r4⟩, -⟩ := rcells hbr
      by_cases hkn : k < un
      · clear r0 r1 r2 r3
        have i1 : (0 : Int) ≤ (k : Int) := by omega
        have i2 : (k : Int) < (un : Int) := by omega
        obtain ⟨g, o, cap', x, he, hg, e0, e1, e2, e3, hq⟩ := (HU1.out.after HB.out).at k (by rw [HN.out]; exact hkn)
        obtain ⟨ha, -, hcp⟩ := Value.slice.inj he
        subst ha hcp
        clear he
        have hfk := HFr.out k hkn
        have hDir := HDir.out k hkn
        have hBody := HBody.out k hkn
        have hdl := HDl.out k
        have hbl := HBl.out k
        rw [List.length_take, HN.out] at hdl hbl
        rw [HDD.out] at hDir hdl
        rw [HBB.out] at hBody hDir hbl
        obtain ⟨f, hf⟩ : ∃ f, r.fields.getD k fd0 = f := ⟨_, rfl⟩
        rw [hf] at e0 e1 e3 hq hfk hDir hBody
        obtain ⟨ht, hi, h1s, h16, hs, ha0, ha9⟩ := right_facts f hfk
        have hxl := right_len f hfk
        have htl := tagB_len _ ht
        have hil := indsB_len _ hi
        obtain ⟨an, han⟩ : ∃ n : Nat, f.auth = (n : Int) := ⟨f.auth.toNat, by omega⟩
        have han9 : an ≤ 9999 := by omega
        have hpa := pad_len an 3 (by omega)
        rw [han] at e3
        obtain ⟨ns, hns⟩ : ∃ n, f.subs.length = n := ⟨_, rfl⟩
        obtain ⟨ax, cs, hx, -, -⟩ := hq.length
        rw [hns] at hx h16
        subst hx
        have HSub := Lib.hid (fun j (hj : j < ns) => (subE_zero _ (hs j (by omega))).2.2.2)
        have HSn := Lib.hid (fun j (hj : j < ns) => subsX_snoc f.subs j (by omega))
        have HTk : RowKit.Hid (f.subs.take ns = f.subs) := by unfold RowKit.Hid; rw [← hns, List.take_length]
        have HNs := Lib.hid hns
        obtain ⟨W1, hW1⟩ : ∃ W1, wr.alloc (.cells #[.string (S f.tag), .string (S f.ind), .slice ax ns cs, .int .i64 (an : Int)] 49) = W1 := ⟨_, rfl⟩
        have hbw : Below wr.heap.size wr W1 := by rw [← hW1]; exact (Below.refl _ _).alloc (Nat.le_refl _) _
        have hbox : W1.heap[wr.heap.size]? = some (.cells #[.string (S f.tag), .string (S f.ind), .slice ax ns cs, .int .i64 (an : Int)] 49 (0, 0)) := by rw [← hW1]; exact heap_alloc_new wr _
        obtain ⟨m, hm⟩ : ∃ m, wr.heap.size = m := ⟨_, rfl⟩
        rw [hm] at hbox
        have hmlt : m < W1.heap.size := (Array.getElem?_eq_some_iff.1 hbox).1
        have y0 : W1.cell? ⟨m, 0, none⟩ = some (.string (S f.tag)) := by rw [Lib.cell_of_heap hbox]; rfl
        have y1 : W1.cell? ⟨m, 1, none⟩ = some (.string (S f.ind)) := by rw [Lib.cell_of_heap hbox]; rfl
        have y2 : W1.cell? ⟨m, 2, none⟩ = some (.slice ax ns cs) := by rw [Lib.cell_of_heap hbox]; rfl
        have y3 : W1.cell? ⟨m, 3, none⟩ = some (.int .i64 (an : Int)) := by rw [Lib.cell_of_heap hbox]; rfl
        have HBw1 := Lib.hid (HB.out.trans (hbw.mono HB.out.size))
        have HQ1' := Lib.hid (hq.after hbw)
        have HW1 := Lib.hid hW1
        have HM := Lib.hid hmlt
        have KT := Lib.hid y0
        have KI := Lib.hid y1
        have KS := Lib.hid y2
        have KA := Lib.hid y3
        have hX : fldX f = f.ind ++ padI an 4 ++ subsX f.subs ++ [30] := by
          unfold fldX
          rw [han, Int.toNat_natCast]
        have HX := Lib.hid hX
        have HXl := Lib.hid hxl
        have HDir2 := Lib.hid hDir
        have HBody2 := Lib.hid hBody
        have hDDl : DD.length ≤ 2000 := by omega
        have hBBl : BB.length ≤ 300000 := by omega
        obtain ⟨tg, htg⟩ : ∃ t, f.tag = t := ⟨_, rfl⟩
        rw [htg] at HDir2 KT HW1 htl e0
        have HTl := Lib.hid htl
        have cA := Lib.hid (fun W => refDigits_any an 4 (by omega) (by decide) W)
        have HSum : RowKit.Hid (S f.ind ++ S (padI an 4) = S (f.ind ++ padI an 4)) := S_append _ _
        have HSi : RowKit.Hid ((S f.ind).size = 2) := by unfold RowKit.Hid; rw [S_size, hil]
        have HPa : RowKit.Hid ((S (padI an 4)).size = 4) := by unfold RowKit.Hid; rw [S_size, hpa]
        obtain ⟨hd, hhd⟩ : ∃ h, f.ind ++ padI an 4 = h := ⟨_, rfl⟩
        have hhl : hd.length = 6 := by rw [← hhd, List.length_append, hil, hpa]
        rw [hhd] at HSum HX
        change RowKit.Hid (∀ W, Calls _ _ _ _ fun e w' => e = .returned (.string (S (padI an 4))) ∧ w' = W) at cA
        generalize S f.ind = si at *
        generalize S (padI an 4) = pa at *
        obtain ⟨q5, hq5⟩ : ∃ q, si ++ pa = q := ⟨_, rfl⟩
        have Q5 := Lib.hid hq5
        have Z5 : RowKit.Hid (¬ 9223372036854775807 < (2 : Nat) + 4) := by unfold RowKit.Hid; omega
        obtain ⟨z5, hz5⟩ : ∃ z, 2 + 4 = z := ⟨_, rfl⟩
        have HQ5 : RowKit.Hid (q5.size = z5) := by unfold RowKit.Hid; rw [← hq5, ByteArray.size_append, HSi.out, HPa.out, hz5]
        have HQS : RowKit.Hid (q5 = S hd) := by unfold RowKit.Hid; rw [← hq5, HSum.out]
        clear hf hfk hDir hBody hdl hbl ht hi hs ha0 ha9 hxl htl hil hpa hns hq hbw hbox hmlt hW1 y0 y1 y2 y3 hX hhd htg hz5 hq5 hbr han h1s HSum
        go_upto_region 10 with fail
        rw [HW1.out]
        apply wp_region_end (R := fun u v => Below u.heap.size u v) (V := [SPR.eq _ (.pointer (some ⟨m, 1, none⟩)), SPR.eq _ (.string si), SPR.eq _ (.pointer (some ⟨m, 3, none⟩)), SPR.eq _ (.int .i64 (an : Int)), SPR.eq _ (.string pa), SPR.eq _ (.string q5)]) (n := 6) (f := 2)
        case htrans => exact fun _ _ _ h k => h.trans (k.mono h.size)
        case hdrew => exact (Below.refl _ _).drew
        case hm => kernel_rfl
        case hd => kernel_rfl
        case hb => kernel_rfl
        case hA =>
          intro vs
          simp only [List.take_succ_cons, List.take_zero, puts, Act.put, List.setIfInBounds_toArray, List.set_cons_zero, List.set_cons_succ]
          exact rfl
        case hlast => kernel_rfl
        case hol => exact rfl
        case hob =>
          refine ObsR.cons _ _ _ _ _ _ _ ?o0 (ObsR.cons _ _ _ _ _ _ _ ?o1 (ObsR.cons _ _ _ _ _ _ _ ?o2 (ObsR.cons _ _ _ _ _ _ _ ?o3 (ObsR.cons _ _ _ _ _ _ _ ?o4 (ObsR.cons _ _ _ _ _ _ _ ?o5 (ObsR.nil _ _ _ _ _ _ _))))))
          case o0 =>
            intro vs W hw hd K hK
            go_simp
            exact hK.out _ _ rfl (Below.refl _ _)
          case o1 =>
            intro vs W hw hd K hK
            have h0 : vs 0 = .pointer (some ⟨m, 1, none⟩) := hd 0 (by kernel_rfl)
            have kx := (hw.cell (p := ⟨m, 1, none⟩) HM.out).trans KI.out
            simp only [Nat.reduceAdd, h0] at hK ⊢
            go_simp
            exact hK.out _ _ rfl (Below.refl _ _)
          case o2 =>
            intro vs W hw hd K hK
            go_simp
            exact hK.out _ _ rfl (Below.refl _ _)
          case o3 =>
            intro vs W hw hd K hK
            have h2 : vs 2 = .pointer (some ⟨m, 3, none⟩) := hd 2 (by kernel_rfl)
            have kx := (hw.cell (p := ⟨m, 3, none⟩) HM.out).trans KA.out
            simp only [Nat.reduceAdd, h2] at hK ⊢
            go_simp
            exact hK.out _ _ rfl (Below.refl _ _)
          case o4 =>
            intro vs W hw hd K hK
            have h3 : vs 3 = .int .i64 (an : Int) := hd 3 (by kernel_rfl)
            simp only [Nat.reduceAdd, h3] at hK ⊢
            go_simp
            refine (cA.out W).mono ?_
            rintro e W' ⟨rfl, hb'⟩
            rw [hb']
            exact hK.out _ _ rfl (Below.refl _ _)
          case o5 =>
            intro vs W hw hd K hK
            have h1 : vs 1 = .string si := hd 1 (by kernel_rfl)
            have h4 : vs 4 = .string pa := hd 4 (by kernel_rfl)
            have hz1 := HSi.out
            have hz2 := HPa.out
            have hz := Z5.out
            simp only [Nat.reduceAdd, h1, h4] at hK ⊢
            go_simp
            exact hK.out _ _ (congrArg Value.string Q5.out) (Below.refl _ _)
        case hfin =>
          intro vs W hw hv'
          have e5 : vs 5 = .string q5 := hv' 5 (by decide)
          simp only [Nat.reduceAdd, e5]
          go_simp
          rw [HQS.out]
          have HB2 := Lib.hid hw
          clear hv' hw e5 r4 e0 e1 e2 e3 HW1 HQ5 Q5 Z5
          have hkm := Lib.hid (fun W (h : Below W1.heap.size W1 W) => (h.cell (p := ⟨m, 2, none⟩) HM.out).trans KS.out)
          have hr4 := Lib.hid (fun W (h : Below W1.heap.size W1 W) => (HBw1.out.trans (h.mono HBw1.out.size)).cell (p := ⟨w.heap.size, 4, none⟩) hlt1)
          go_wp2
          have k2 := hkm.out W HB2.out
          go_loopw [9, 10] (fun bv i wr2 => ∃ (j : Nat) (Bx : List UInt8), bv = .string (S Bx) ∧ i = .int .i64 (j : Int) ∧ j ≤ ns ∧ Bx.length ≤ 6 + 202 * j ∧ RowKit.Hid (Bx = hd ++ subsX (f.subs.take j)) ∧ RowKit.Hid (Below W1.heap.size W1 wr2)) (fun _ i _ => ns - (intOf i).toNat)
          case atStart => exact ⟨0, hd, rfl, rfl, Nat.zero_le _, by omega, by unfold RowKit.Hid; simp [subsX], HB2⟩
          case round =>
            obtain ⟨j, Bx, rfl, rfl, hj, hBxl, HBx, HBi⟩ := hrel
            clear k2
            have k2 := hkm.out _ HBi.out
            by_cases hjn : j < ns
            · have j1 : (0 : Int) ≤ (j : Int) := by omega
              have j2 : (j : Int) < (ns : Int) := by omega
              obtain ⟨g2, o2, hax, hg2, c1, c2⟩ : ∃ g2 o2, ax = some ⟨g2, o2, none⟩ ∧ g2 < wr.heap.size ∧ wr.cell? ⟨g2, o2 + j * 2, none⟩ = some (.int .u8 ((f.subs.getD j sub0).1.toNat : Int)) ∧ wr.cell? ⟨g2, o2 + j * 2 + 1, none⟩ = some (.string (S (f.subs.getD j sub0).2)) := by
                obtain ⟨a', cap', he, _, _, _, hx⟩ := HQ1'.out.after HBi.out
                obtain ⟨g2, o2, h1, h2, h3, h4⟩ := hx j (by rw [HNs.out]; exact hjn)
                obtain ⟨rfl, -, -⟩ := Value.slice.inj he
                exact ⟨g2, o2, h1, h2, h3, h4⟩
              subst hax
              have hvl := HSub.out j hjn
              have hsn := HSn.out j hjn
              obtain ⟨⟨cc, vv⟩, hsb⟩ : ∃ s, f.subs.getD j sub0 = s := ⟨_, rfl⟩
              rw [hsb] at c1 c2 hvl hsn
              simp only at c1 c2 hvl hsn
              obtain ⟨vl, hvv⟩ : ∃ n, vv.length = n := ⟨_, rfl⟩
              obtain ⟨bl, hbl⟩ : ∃ n, Bx.length = n := ⟨_, rfl⟩
              rw [hbl] at hBxl
              rw [hvv] at hvl
              have hb2 : Bx ++ [31] ++ [cc] ++ vv = Bx ++ subX (cc, vv) := by simp [subX]
              have HBx2 : RowKit.Hid (Bx ++ [31] ++ [cc] ++ vv = hd ++ subsX (f.subs.take (j + 1))) := by
                unfold RowKit.Hid
                rw [hb2, hsn, ← List.append_assoc, ← HBx.out]
              have hL2 : (Bx ++ [31] ++ [cc] ++ vv).length ≤ 6 + 202 * (j + 1) := by
                simp only [List.length_append, List.length_cons, List.length_nil]
                omega
              have HL2 := Lib.hid hL2
              have HSum : RowKit.Hid (S Bx ++ ⟨#[31]⟩ ++ S [cc] ++ S vv = S (Bx ++ [31] ++ [cc] ++ vv)) := by
                unfold RowKit.Hid
                rw [show (⟨#[31]⟩ : ByteArray) = S [31] from rfl]
                simp only [S_append]
              have HSb : RowKit.Hid ((S Bx).size = bl) := by unfold RowKit.Hid; rw [S_size, hbl]
              have HSv : RowKit.Hid ((S vv).size = vl) := by unfold RowKit.Hid; rw [S_size, hvv]
              have H31 : RowKit.Hid ((⟨#[31]⟩ : ByteArray).size = 1) := rfl
              have HCc : RowKit.Hid ((S [cc]).size = 1) := rfl
              obtain ⟨sb, hsb2⟩ : ∃ s, S Bx = s := ⟨_, rfl⟩
              obtain ⟨sv, hsv2⟩ : ∃ s, S vv = s := ⟨_, rfl⟩
              rw [hsb2] at HSb HSum ⊢
              rw [hsv2] at HSv HSum c2
              obtain ⟨q1, hq1⟩ : ∃ q, sb ++ (⟨#[31]⟩ : ByteArray) = q := ⟨_, rfl⟩
              have Q1 := Lib.hid hq1
              have Z1 : RowKit.Hid (¬ 9223372036854775807 < (bl : Nat) + 1) := by unfold RowKit.Hid; omega
              obtain ⟨z1, hz1⟩ : ∃ z, bl + 1 = z := ⟨_, rfl⟩
              have HQ1 : RowKit.Hid (q1.size = z1) := by unfold RowKit.Hid; rw [← hq1, ByteArray.size_append, HSb.out, H31.out, hz1]
              obtain ⟨q10, hq10⟩ : ∃ q, q1 ++ S [cc] = q := ⟨_, rfl⟩
              have Q10 := Lib.hid hq10
              have Z10 : RowKit.Hid (¬ 9223372036854775807 < (z1 : Nat) + 1) := by unfold RowKit.Hid; omega
              obtain ⟨z10, hz10⟩ : ∃ z, z1 + 1 = z := ⟨_, rfl⟩
              have HQ10 : RowKit.Hid (q10.size = z10) := by unfold RowKit.Hid; rw [← hq10, ByteArray.size_append, HQ1.out, HCc.out, hz10]
              obtain ⟨q17, hq17⟩ : ∃ q, q10 ++ sv = q := ⟨_, rfl⟩
              have Q17 := Lib.hid hq17
              have Z17 : RowKit.Hid (¬ 9223372036854775807 < (z10 : Nat) + vl) := by unfold RowKit.Hid; omega
              obtain ⟨z17, hz17⟩ : ∃ z, z10 + vl = z := ⟨_, rfl⟩
              have HQ17 : RowKit.Hid (q17.size = z17) := by unfold RowKit.Hid; rw [← hq17, ByteArray.size_append, HQ10.out, HSv.out, hz17]
              have HQS2 : RowKit.Hid (q17 = S (Bx ++ [31] ++ [cc] ++ vv)) := by
                unfold RowKit.Hid
                rw [← HSum.out, hq1, hq10, hq17]
              have HG2 := Lib.hid hg2
              have KC := Lib.hid c1
              have KV := Lib.hid c2
              have HM3 := Lib.hid (Nat.lt_of_lt_of_le HM.out HBi.out.size)
              have KS3 := Lib.hid k2
              clear hsb hvl hsn hvv hbl hb2 hL2 hsb2 hsv2 hq1 hq10 hq17 hz1 hz10 hz17 HSum hg2 c1 c2 HBx
              go_upto_region 14 with fail
              apply wp_region_end (R := fun u v => Below u.heap.size u v) (V := [SPR.eq _ (.string sb), SPR.eq _ (.string q1), SPR.eq _ (.pointer (some ⟨m, 2, none⟩)), SPR.eq _ (.slice (some ⟨g2, o2, none⟩) ns cs), SPR.eq _ (.int .i64 (j : Int)), SPR.eq _ (.pointer (some ⟨g2, o2 + j * 2, none⟩)), SPR.eq _ (.pointer (some ⟨g2, o2 + j * 2, none⟩)), SPR.eq _ (.int .u8 (cc.toNat : Int)), (SPR.byte cc), SPR.eq _ (.string (S [cc])), SPR.eq _ (.string q10), SPR.eq _ (.pointer (some ⟨m, 2, none⟩)), SPR.eq _ (.slice (some ⟨g2, o2, none⟩) ns cs), SPR.eq _ (.int .i64 (j : Int)), SPR.eq _ (.pointer (some ⟨g2, o2 + j * 2, none⟩)), SPR.eq _ (.pointer (some ⟨g2, o2 + j * 2 + 1, none⟩)), SPR.eq _ (.string sv), SPR.eq _ (.string q17)]) (n := 18) (f := 2)
              case htrans => exact fun _ _ _ h k => h.trans (k.mono h.size)
              case hdrew => exact (Below.refl _ _).drew
              case hm => kernel_rfl
              case hd => kernel_rfl
              case hb => kernel_rfl
              case hA =>
                intro vs
                simp only [List.take_succ_cons, List.take_zero, puts, Act.put, List.setIfInBounds_toArray, List.set_cons_zero, List.set_cons_succ]
                exact rfl
              case hlast => kernel_rfl
              case hol => exact rfl
              case hob =>
                refine ObsR.cons _ _ _ _ _ _ _ ?o0 (ObsR.cons _ _ _ _ _ _ _ ?o1 (ObsR.cons _ _ _ _ _ _ _ ?o2 (ObsR.cons _ _ _ _ _ _ _ ?o3 (ObsR.cons _ _ _ _ _ _ _ ?o4 (ObsR.cons _ _ _ _ _ _ _ ?o5 (ObsR.cons _ _ _ _ _ _ _ ?o6 (ObsR.cons _ _ _ _ _ _ _ ?o7 (ObsR.cons _ _ _ _ _ _ _ ?o8 (ObsR.cons _ _ _ _ _ _ _ ?o9 (ObsR.cons _ _ _ _ _ _ _ ?o10 (ObsR.cons _ _ _ _ _ _ _ ?o11 (ObsR.cons _ _ _ _ _ _ _ ?o12 (ObsR.cons _ _ _ _ _ _ _ ?o13 (ObsR.cons _ _ _ _ _ _ _ ?o14 (ObsR.cons _ _ _ _ _ _ _ ?o15 (ObsR.cons _ _ _ _ _ _ _ ?o16 (ObsR.cons _ _ _ _ _ _ _ ?o17 (ObsR.nil _ _ _ _ _ _ _))))))))))))))))))
                case o0 =>
                  intro vs W hw hd K hK
                  go_simp
                  exact hK.out _ _ rfl (Below.refl _ _)
                case o1 =>
                  intro vs W hw hd K hK
                  have h0 : vs 0 = .string sb := hd 0 (by kernel_rfl)
                  have hz1 := HSb.out
                  have hz2 := H31.out
                  have hz := Z1.out
                  simp only [Nat.reduceAdd, h0] at hK ⊢
                  go_simp
                  exact hK.out _ _ (congrArg Value.string Q1.out) (Below.refl _ _)
                case o2 =>
                  intro vs W hw hd K hK
                  go_simp
                  exact hK.out _ _ rfl (Below.refl _ _)
                case o3 =>
                  intro vs W hw hd K hK
                  have h2 : vs 2 = .pointer (some ⟨m, 2, none⟩) := hd 2 (by kernel_rfl)
                  have kx := (hw.cell (p := ⟨m, 2, none⟩) HM3.out).trans KS3.out
                  simp only [Nat.reduceAdd, h2] at hK ⊢
                  go_simp
                  exact hK.out _ _ rfl (Below.refl _ _)
                case o4 =>
                  intro vs W hw hd K hK
                  go_simp
                  exact hK.out _ _ rfl (Below.refl _ _)
                case o5 =>
                  intro vs W hw hd K hK
                  have h3 : vs 3 = .slice (some ⟨g2, o2, none⟩) ns cs := hd 3 (by kernel_rfl)
                  have h4 : vs 4 = .int .i64 (j : Int) := hd 4 (by kernel_rfl)
                  simp only [Nat.reduceAdd, h3, h4] at hK ⊢
                  go_simp
                  exact hK.out _ _ rfl (Below.refl _ _)
                case o6 =>
                  intro vs W hw hd K hK
                  have h5 : vs 5 = .pointer (some ⟨g2, o2 + j * 2, none⟩) := hd 5 (by kernel_rfl)
                  simp only [Nat.reduceAdd, h5] at hK ⊢
                  go_simp
                  exact hK.out _ _ rfl (Below.refl _ _)
                case o7 =>
                  intro vs W hw hd K hK
                  have h6 : vs 6 = .pointer (some ⟨g2, o2 + j * 2, none⟩) := hd 6 (by kernel_rfl)
                  have kx := (hw.cell (p := ⟨g2, o2 + j * 2, none⟩) HG2.out).trans KC.out
                  simp only [Nat.reduceAdd, h6] at hK ⊢
                  go_simp
                  exact hK.out _ _ rfl (Below.refl _ _)
                case o8 =>
                  intro vs W hw hd K hK
                  have h7 : vs 7 = .int .u8 (cc.toNat : Int) := hd 7 (by kernel_rfl)
                  simp only [Nat.reduceAdd, h7] at hK ⊢
                  go_simp
                  exact hK.out _ _ ⟨W.heap.size, rfl, heap_alloc_new W _⟩ ((Below.refl _ _).alloc (Nat.le_refl _) _)
                case o9 =>
                  intro vs W hw hd K hK
                  obtain ⟨g3, hs3, hb3⟩ : ∃ g, vs 8 = .slice (some ⟨g, 0, none⟩) 1 1 ∧ W.heap[g]? = some (.cells #[.int .u8 (cc.toNat : Int)] 5 (0, 0)) := hd 8 (by kernel_rfl)
                  simp only [Nat.reduceAdd, hs3] at hK ⊢
                  go_simp
                  rw [conv_one W g3 cc hb3]
                  exact hK.out _ _ rfl (Below.refl _ _)
                case o10 =>
                  intro vs W hw hd K hK
                  have h1 : vs 1 = .string q1 := hd 1 (by kernel_rfl)
                  have h9 : vs 9 = .string (S [cc]) := hd 9 (by kernel_rfl)
                  have hz1 := HQ1.out
                  have hz2 := HCc.out
                  have hz := Z10.out
                  simp only [Nat.reduceAdd, h1, h9] at hK ⊢
                  go_simp
                  exact hK.out _ _ (congrArg Value.string Q10.out) (Below.refl _ _)
                case o11 =>
                  intro vs W hw hd K hK
                  go_simp
                  exact hK.out _ _ rfl (Below.refl _ _)
                case o12 =>
                  intro vs W hw hd K hK
                  have h11 : vs 11 = .pointer (some ⟨m, 2, none⟩) := hd 11 (by kernel_rfl)
                  have kx := (hw.cell (p := ⟨m, 2, none⟩) HM3.out).trans KS3.out
                  simp only [Nat.reduceAdd, h11] at hK ⊢
                  go_simp
                  exact hK.out _ _ rfl (Below.refl _ _)
                case o13 =>
                  intro vs W hw hd K hK
                  go_simp
                  exact hK.out _ _ rfl (Below.refl _ _)
                case o14 =>
                  intro vs W hw hd K hK
                  have h12 : vs 12 = .slice (some ⟨g2, o2, none⟩) ns cs := hd 12 (by kernel_rfl)
                  have h13 : vs 13 = .int .i64 (j : Int) := hd 13 (by kernel_rfl)
                  simp only [Nat.reduceAdd, h12, h13] at hK ⊢
                  go_simp
                  exact hK.out _ _ rfl (Below.refl _ _)
                case o15 =>
                  intro vs W hw hd K hK
                  have h14 : vs 14 = .pointer (some ⟨g2, o2 + j * 2, none⟩) := hd 14 (by kernel_rfl)
                  simp only [Nat.reduceAdd, h14] at hK ⊢
                  go_simp
                  exact hK.out _ _ rfl (Below.refl _ _)
                case o16 =>
                  intro vs W hw hd K hK
                  have h15 : vs 15 = .pointer (some ⟨g2, o2 + j * 2 + 1, none⟩) := hd 15 (by kernel_rfl)
                  have kx := (hw.cell (p := ⟨g2, o2 + j * 2 + 1, none⟩) HG2.out).trans KV.out
                  simp only [Nat.reduceAdd, h15] at hK ⊢
                  go_simp
                  exact hK.out _ _ rfl (Below.refl _ _)
                case o17 =>
                  intro vs W hw hd K hK
                  have h10 : vs 10 = .string q10 := hd 10 (by kernel_rfl)
                  have h16 : vs 16 = .string sv := hd 16 (by kernel_rfl)
                  have hz1 := HQ10.out
                  have hz2 := HSv.out
                  have hz := Z17.out
                  simp only [Nat.reduceAdd, h10, h16] at hK ⊢
                  go_simp
                  exact hK.out _ _ (congrArg Value.string Q17.out) (Below.refl _ _)
              case hfin =>
                intro vs W hw hv'
                have e17 : vs 17 = .string q17 := hv' 17 (by decide)
                simp only [Nat.reduceAdd, e17]
                go_simp
                rw [HQS2.out]
                have HBj := Lib.hid (HBi.out.trans (hw.mono HBi.out.size))
                clear hv' hw e17 k2 HQ1 HQ10 Q1 Q10 Q17 Z1 Z10 Z17 HSb HSv H31 HCc HM3 KS3 KC KV HG2
                go_wp2
                go_roundw
                case rel => exact ⟨j + 1, _, rfl, by go_num, by omega, HL2.out, HBx2, HBj⟩
                case measure => simp [intOf]; omega
            · obtain rfl : j = ns := by omega
              have HBe : RowKit.Hid (Bx ++ [30] = fldX f) := by
                unfold RowKit.Hid
                rw [HX.out, HBx.out, HTk.out]
              have hxl := HXl.out
              have hBl2 : (Bx ++ [30]).length = (fldX f).length := by rw [HBe.out]
              rw [List.length_append] at hBl2
              obtain ⟨X, hX⟩ : ∃ X, fldX f = X := ⟨_, rfl⟩
              rw [hX] at hxl HBe HBody2 HDir2 hBl2
              obtain ⟨xl, hxl2⟩ : ∃ n, X.length = n := ⟨_, rfl⟩
              obtain ⟨bxl, hbxl⟩ : ∃ n, Bx.length = n := ⟨_, rfl⟩
              obtain ⟨bl, hbl2⟩ : ∃ n, BB.length = n := ⟨_, rfl⟩
              obtain ⟨ddl, hddl⟩ : ∃ n, DD.length = n := ⟨_, rfl⟩
              rw [hxl2] at hxl hBl2 HDir2
              rw [hbxl] at hBl2 hBxl
              rw [hbl2] at HDir2 hBBl
              rw [hddl] at hDDl
              simp only [List.length_cons, List.length_nil] at hBl2
              have hP1 := pad_len xl 3 (by omega)
              have hP2 := pad_small bl 5 (by omega)
              have c1 := Lib.hid (fun W => refDigits_any xl 4 (by omega) (by decide) W)
              have c2 := Lib.hid (fun W => refDigits_any bl 5 (by omega) (by decide) W)
              change RowKit.Hid (∀ W, Calls _ _ _ _ fun e w' => e = .returned (.string (S (padI xl 4))) ∧ w' = W) at c1
              change RowKit.Hid (∀ W, Calls _ _ _ _ fun e w' => e = .returned (.string (S (padI bl 5))) ∧ w' = W) at c2
              have hX30 : S Bx ++ (⟨#[30]⟩ : ByteArray) = S X := by
                rw [show (⟨#[30]⟩ : ByteArray) = S [30] from rfl, S_append, HBe.out]
              have HSx : RowKit.Hid ((S X).size = xl) := by unfold RowKit.Hid; rw [S_size, hxl2]
              have HSy : RowKit.Hid ((S BB).size = bl) := by unfold RowKit.Hid; rw [S_size, hbl2]
              have HSd : RowKit.Hid ((S DD).size = ddl) := by unfold RowKit.Hid; rw [S_size, hddl]
              have HSt : RowKit.Hid ((S tg).size = 3) := by unfold RowKit.Hid; rw [S_size, HTl.out]
              have HP1 : RowKit.Hid ((S (padI xl 4)).size = 4) := by unfold RowKit.Hid; rw [S_size, hP1]
              obtain ⟨d2, hd2⟩ : ∃ d, (padI bl 5).length = d := ⟨_, rfl⟩
              rw [hd2] at hP2
              have HP2 : RowKit.Hid ((S (padI bl 5)).size = d2) := by unfold RowKit.Hid; rw [S_size, hd2]
              have hsum : S DD ++ S tg ++ S (padI xl 4) ++ S (padI bl 5) = S (dirX 0 (r.fields.take (k + 1))) := by
                rw [HDir2.out]
                simp only [S_append, List.append_assoc]
              have hsum2 : S BB ++ S X = S (bodX (r.fields.take (k + 1))) := by rw [HBody2.out, S_append]
              have kt : wr.cell? ⟨m, 0, none⟩ = some (.string (S tg)) := (HBi.out.cell (p := ⟨m, 0, none⟩) HM.out).trans KT.out
              have hsz1 : (S Bx).size = bxl := by rw [S_size, hbxl]
              have hsz2 : ¬ 9223372036854775807 < bxl + 1 := by omega
              have h30 : (⟨#[30]⟩ : ByteArray).size = 1 := rfl
              have hsz3 : ¬ 9223372036854775807 < bl + xl := by omega
              obtain ⟨st, hst⟩ : ∃ s, S tg = s := ⟨_, rfl⟩
              obtain ⟨p1, hp1⟩ : ∃ s, S (padI xl 4) = s := ⟨_, rfl⟩
              obtain ⟨p2, hp2⟩ : ∃ s, S (padI bl 5) = s := ⟨_, rfl⟩
              obtain ⟨sx, hsx⟩ : ∃ s, S X = s := ⟨_, rfl⟩
              obtain ⟨sy, hsy⟩ : ∃ s, S BB = s := ⟨_, rfl⟩
              obtain ⟨sd, hsd⟩ : ∃ s, S DD = s := ⟨_, rfl⟩
              obtain ⟨sb, hsb⟩ : ∃ s, S Bx = s := ⟨_, rfl⟩
              rw [hst] at HSt hsum kt
              rw [hp1] at hsum HP1 c1
              rw [hp2] at hsum HP2 c2
              rw [hsx] at HSx hsum2 hX30
              rw [hsy] at HSy hsum2
              rw [hsd] at HSd hsum
              rw [hsb] at hX30 hsz1
              rw [hst, hsy, hsd, hsb]
              obtain ⟨q3, hq3⟩ : ∃ q, sd ++ st = q := ⟨_, rfl⟩
              have Q3 := Lib.hid hq3
              have Z3 : RowKit.Hid (¬ 9223372036854775807 < (ddl : Nat) + 3) := by unfold RowKit.Hid; omega
              obtain ⟨z3, hz3⟩ : ∃ z, ddl + 3 = z := ⟨_, rfl⟩
              have HQ3 : RowKit.Hid (q3.size = z3) := by unfold RowKit.Hid; rw [← hq3, ByteArray.size_append, HSd.out, HSt.out, hz3]
              obtain ⟨q7, hq7⟩ : ∃ q, q3 ++ p1 = q := ⟨_, rfl⟩
              have Q7 := Lib.hid hq7
              have Z7 : RowKit.Hid (¬ 9223372036854775807 < (z3 : Nat) + 4) := by unfold RowKit.Hid; omega
              obtain ⟨z7, hz7⟩ : ∃ z, z3 + 4 = z := ⟨_, rfl⟩
              have HQ7 : RowKit.Hid (q7.size = z7) := by unfold RowKit.Hid; rw [← hq7, ByteArray.size_append, HQ3.out, HP1.out, hz7]
              obtain ⟨q11, hq11⟩ : ∃ q, q7 ++ p2 = q := ⟨_, rfl⟩
              have Q11 := Lib.hid hq11
              have Z11 : RowKit.Hid (¬ 9223372036854775807 < (z7 : Nat) + d2) := by unfold RowKit.Hid; omega
              obtain ⟨z11, hz11⟩ : ∃ z, z7 + d2 = z := ⟨_, rfl⟩
              have HQ11 : RowKit.Hid (q11.size = z11) := by unfold RowKit.Hid; rw [← hq11, ByteArray.size_append, HQ7.out, HP2.out, hz11]
              rw [hq3, hq7, hq11] at hsum
              have HSum := Lib.hid hsum
              have HSum2 := Lib.hid hsum2
              have HM4 := Lib.hid (Nat.lt_of_lt_of_le HM.out HBi.out.size)
              have KT4 := Lib.hid kt
              have HX30 := Lib.hid hX30
              have HZ3 := Lib.hid hsz3
              clear hX hxl2 hbxl hbl2 hddl hP1 hP2 hd2 hsum hsum2 kt hst hp1 hp2 hsx hsy hsd hsb hq3 hq7 hq11 hz3 hz7 hz11 hxl hBl2 hX30 hsz3 HBx HDir2 HBody2
              go_upto_region 16 with fail
              rw [HX30.out]
              apply wp_region_end (R := fun u v => Below u.heap.size u v) (V := [SPR.eq _ (.string sd), SPR.eq _ (.pointer (some ⟨m, 0, none⟩)), SPR.eq _ (.string st), SPR.eq _ (.string q3), SPR.eq _ (.string sx), SPR.eq _ (.int .i64 (xl : Int)), SPR.eq _ (.string p1), SPR.eq _ (.string q7), SPR.eq _ (.string sy), SPR.eq _ (.int .i64 (bl : Int)), SPR.eq _ (.string p2), SPR.eq _ (.string q11)]) (n := 12) (f := 2)
              case htrans => exact fun _ _ _ h k => h.trans (k.mono h.size)
              case hdrew => exact (Below.refl _ _).drew
              case hm => kernel_rfl
              case hd => kernel_rfl
              case hb => kernel_rfl
              case hA =>
                intro vs
                simp only [List.take_succ_cons, List.take_zero, puts, Act.put, List.setIfInBounds_toArray, List.set_cons_zero, List.set_cons_succ]
                exact rfl
              case hlast => kernel_rfl
              case hol => exact rfl
              case hob =>
                refine ObsR.cons _ _ _ _ _ _ _ ?o0 (ObsR.cons _ _ _ _ _ _ _ ?o1 (ObsR.cons _ _ _ _ _ _ _ ?o2 (ObsR.cons _ _ _ _ _ _ _ ?o3 (ObsR.cons _ _ _ _ _ _ _ ?o4 (ObsR.cons _ _ _ _ _ _ _ ?o5 (ObsR.cons _ _ _ _ _ _ _ ?o6 (ObsR.cons _ _ _ _ _ _ _ ?o7 (ObsR.cons _ _ _ _ _ _ _ ?o8 (ObsR.cons _ _ _ _ _ _ _ ?o9 (ObsR.cons _ _ _ _ _ _ _ ?o10 (ObsR.cons _ _ _ _ _ _ _ ?o11 (ObsR.nil _ _ _ _ _ _ _))))))))))))
                case o0 =>
                  intro vs W hw hd K hK
                  go_simp
                  exact hK.out _ _ rfl (Below.refl _ _)
                case o1 =>
                  intro vs W hw hd K hK
                  go_simp
                  exact hK.out _ _ rfl (Below.refl _ _)
                case o2 =>
                  intro vs W hw hd K hK
                  have h1 : vs 1 = .pointer (some ⟨m, 0, none⟩) := hd 1 (by kernel_rfl)
                  have kx := (hw.cell (p := ⟨m, 0, none⟩) HM4.out).trans KT4.out
                  simp only [Nat.reduceAdd, h1] at hK ⊢
                  go_simp
                  exact hK.out _ _ rfl (Below.refl _ _)
                case o3 =>
                  intro vs W hw hd K hK
                  have h0 : vs 0 = .string sd := hd 0 (by kernel_rfl)
                  have h2 : vs 2 = .string st := hd 2 (by kernel_rfl)
                  have hz1 := HSd.out
                  have hz2 := HSt.out
                  have hz := Z3.out
                  simp only [Nat.reduceAdd, h0, h2] at hK ⊢
                  go_simp
                  exact hK.out _ _ (congrArg Value.string Q3.out) (Below.refl _ _)
                case o4 =>
                  intro vs W hw hd K hK
                  go_simp
                  exact hK.out _ _ rfl (Below.refl _ _)
                case o5 =>
                  intro vs W hw hd K hK
                  have h4 : vs 4 = .string sx := hd 4 (by kernel_rfl)
                  have hx := HSx.out
                  simp only [Nat.reduceAdd, h4] at hK ⊢
                  go_simp
                  exact hK.out _ _ rfl (Below.refl _ _)
                case o6 =>
                  intro vs W hw hd K hK
                  have h5 : vs 5 = .int .i64 (xl : Int) := hd 5 (by kernel_rfl)
                  simp only [Nat.reduceAdd, h5] at hK ⊢
                  go_simp
                  refine (c1.out W).mono ?_
                  rintro e W' ⟨rfl, hb'⟩
                  rw [hb']
                  exact hK.out _ _ rfl (Below.refl _ _)
                case o7 =>
                  intro vs W hw hd K hK
                  have h3 : vs 3 = .string q3 := hd 3 (by kernel_rfl)
                  have h6 : vs 6 = .string p1 := hd 6 (by kernel_rfl)
                  have hz1 := HQ3.out
                  have hz2 := HP1.out
                  have hz := Z7.out
                  simp only [Nat.reduceAdd, h3, h6] at hK ⊢
                  go_simp
                  exact hK.out _ _ (congrArg Value.string Q7.out) (Below.refl _ _)
                case o8 =>
                  intro vs W hw hd K hK
                  go_simp
                  exact hK.out _ _ rfl (Below.refl _ _)
                case o9 =>
                  intro vs W hw hd K hK
                  have h8 : vs 8 = .string sy := hd 8 (by kernel_rfl)
                  have hx := HSy.out
                  simp only [Nat.reduceAdd, h8] at hK ⊢
                  go_simp
                  exact hK.out _ _ rfl (Below.refl _ _)
                case o10 =>
                  intro vs W hw hd K hK
                  have h9 : vs 9 = .int .i64 (bl : Int) := hd 9 (by kernel_rfl)
                  simp only [Nat.reduceAdd, h9] at hK ⊢
                  go_simp
                  refine (c2.out W).mono ?_
                  rintro e W' ⟨rfl, hb'⟩
                  rw [hb']
                  exact hK.out _ _ rfl (Below.refl _ _)
                case o11 =>
                  intro vs W hw hd K hK
                  have h7 : vs 7 = .string q7 := hd 7 (by kernel_rfl)
                  have h10 : vs 10 = .string p2 := hd 10 (by kernel_rfl)
                  have hz1 := HQ7.out
                  have hz2 := HP2.out
                  have hz := Z11.out
                  simp only [Nat.reduceAdd, h7, h10] at hK ⊢
                  go_simp
                  exact hK.out _ _ (congrArg Value.string Q11.out) (Below.refl _ _)
              case hfin =>
                intro vs W hw hv'
                have e11 : vs 11 = .string q11 := hv' 11 (by decide)
                simp only [Nat.reduceAdd, e11]
                go_simp
                rw [HSum.out]
                have HBk := Lib.hid (HBw1.out.trans ((HBi.out.trans (hw.mono HBi.out.size)).mono HBw1.out.size))
                have hr4 := (HBk.out.block w.heap.size hlt1).trans HR1.out
                have hzx := HSx.out
                have hzy := HSy.out
                have hz3 := HZ3.out
                clear hv' hw e11 k2 Q3 Q7 Q11 Z3 Z7 Z11 HQ3 HQ7 HQ11 hsz1 hsz2 h30 hr4
                go_wp2
                go_roundw
                case rel => exact ⟨k + 1, _, _, rfl, congrArg Value.string HSum2.out, by go_num, by omega, rfl, rfl, HBk⟩
                case measure => simp [intOf]; omega
      · obtain rfl : k = un := by omega
        rw [show r.fields.take k = r.fields by rw [← HN.out, List.take_length]] at HDD HBB
        have hdl := HDl.out k
        have hbl := HBl.out k
        rw [show r.fields.take k = r.fields by rw [← HN.out, List.take_length], HN.out] at hdl hbl
        have hk64 := H64.out
        have htt : totX r.fields = 24 + DD.length + 1 + BB.length + 1 := by rw [← HDD.out, ← HBB.out]; rfl
        have hbs : baseX r.fields = 24 + DD.length + 1 := by rw [← HDD.out]; rfl
        rw [HDD.out] at hdl
        rw [HBB.out] at hbl
        have HForm : RowKit.Hid (formX r = leadL (totX r.fields) (baseX r.fields) r ++ DD ++ [30] ++ BB ++ [29]) := by
          unfold RowKit.Hid
          rw [← HDD.out, ← HBB.out]
          rfl
        obtain ⟨id, hid⟩ : ∃ k : Nat, r.id = (k : Int) := ⟨r.id.toNat, by have := HVal.out; omega⟩
        obtain ⟨ver, hver⟩ : ∃ k : Nat, r.ver = (k : Int) := ⟨r.ver.toNat, by have := HVal.out; omega⟩
        obtain ⟨k0, hk0⟩ : ∃ k : Nat, r.kind = (k : Int) + 1 := ⟨(r.kind - 1).toNat, by have := HVal.out; omega⟩
        obtain ⟨tt, htt2⟩ : ∃ n, totX r.fields = n := ⟨_, rfl⟩
        obtain ⟨bs, hbs2⟩ : ∃ n, baseX r.fields = n := ⟨_, rfl⟩
        obtain ⟨dl, hdl2⟩ : ∃ n, DD.length = n := ⟨_, rfl⟩
        obtain ⟨bl, hbl2⟩ : ∃ n, BB.length = n := ⟨_, rfl⟩
        rw [htt2] at htt HForm
        rw [hbs2] at hbs HForm
        rw [hdl2] at hdl htt hbs
        rw [hbl2] at hbl htt
        have hre := HRe.out
        rw [htt2] at hre
        have hlead : leadL tt bs r = padI tt 5 ++ [110] ++ [kindC ((k0 : Int) + 1)] ++ padI ver 1 ++ r.lang ++ padI bs 5 ++ padI id 4 ++ [52, 53, 48, 48] := by
          unfold leadL
          rw [hk0, hver, hid, Int.toNat_natCast, Int.toNat_natCast]
        rw [hlead] at HForm
        have hv := HVal.out
        rw [hid, hver, hk0] at hv
        rw [hid] at r0
        rw [hver] at r1
        rw [hk0] at r2
        have hs1 := S_size DD
        have hs2 := S_size BB
        rw [hdl2] at hs1
        rw [hbl2] at hs2
        have hw1 : wrap64 (wrap64 (24 + (dl : Int)) + 1) = (bs : Int) := by
          rw [wrap64_of (z := 24 + (dl : Int)) (by omega) (by omega), wrap64_of (z := 24 + (dl : Int) + 1) (by omega) (by omega)]
          omega
        have HForm2 := HForm
        have HRe2 := Lib.hid hre
        have HIds := Lib.hid (And.intro hid (And.intro hver hk0))
        have HV2 := Lib.hid hv
        have HTt := Lib.hid htt
        have HBs := Lib.hid hbs
        have HLen := Lib.hid (And.intro hdl (And.intro hbl (And.intro hdl2 hbl2)))
        clear hre hid hver hk0 hv htt hbs hdl hbl hdl2 hbl2 htt2 hbs2 hlead HForm hmax
        go_upto_region 20 with fail
        have hw2 : wrap64 (wrap64 ((bs : Int) + (bl : Int)) + 1) = (tt : Int) := by
          have h1 := HTt.out
          have h2 := HBs.out
          have h3 := HLen.out
          rw [wrap64_of (z := (bs : Int) + (bl : Int)) (by omega) (by omega), wrap64_of (z := (bs : Int) + (bl : Int) + 1) (by omega) (by omega)]
          omega
        rw [hw1, hw2]
        clear hw1 hw2
        have HBf := Lib.hid (B1.out.trans (HB.out.mono B1.out.size))
        by_cases h9 : 9999 < tt
        · have hr2 := HRe2.out
          rw [if_pos h9] at hr2
          obtain ⟨rfl, rfl⟩ := Prod.mk.inj hr2
          have t9 : decide ((9999 : Int) < (tt : Int)) = true := decide_eq_true (by omega)
          clear hr2 HRe2 HRe h9
          go_wp2
          exact HQ.out _ _ ⟨rfl, HBf.out⟩
        have hr2 := HRe2.out
        rw [if_neg h9] at hr2
        obtain ⟨rfl, rfl⟩ := Prod.mk.inj hr2
        have t9 : decide ((9999 : Int) < (tt : Int)) = false := decide_eq_false (by omega)
        have hv := HV2.out
        have hlen := HLen.out
        have h3l := HLang.out
        have htt9 : tt ≤ 9999 := by omega
        have hbs9 : bs ≤ 9999 := by have := HTt.out; have := HBs.out; omega
        have hid9 : id ≤ 9999 := by omega
        have hver9 : ver ≤ 3 := by omega
        have hk4 : k0 < 4 := by omega
        have l1 := pad_len tt 4 (by omega)
        have l2 := pad_len ver 0 (by omega)
        have l3 := pad_len bs 4 (by omega)
        have l4 := pad_len id 3 (by omega)
        have c1 := Lib.hid (fun W => refDigits_any tt 5 (by omega) (by decide) W)
        have c2 := Lib.hid (fun W => refDigits_any ver 1 (by omega) (by decide) W)
        have c3 := Lib.hid (fun W => refDigits_any bs 5 (by omega) (by decide) W)
        have c4 := Lib.hid (fun W => refDigits_any id 4 (by omega) (by decide) W)
        change RowKit.Hid (∀ W, Calls _ _ _ _ fun e w' => e = .returned (.string (S (padI tt 5))) ∧ w' = W) at c1
        change RowKit.Hid (∀ W, Calls _ _ _ _ fun e w' => e = .returned (.string (S (padI ver 1))) ∧ w' = W) at c2
        change RowKit.Hid (∀ W, Calls _ _ _ _ fun e w' => e = .returned (.string (S (padI bs 5))) ∧ w' = W) at c3
        change RowKit.Hid (∀ W, Calls _ _ _ _ fun e w' => e = .returned (.string (S (padI id 4))) ∧ w' = W) at c4
        have HEx := Lib.hid (kind_at k0 hk4)
        have HK4 := Lib.hid hk4
        have HWr : RowKit.Hid (IntKind.i64.wrap (k0 : Int) = (k0 : Int)) := by unfold RowKit.Hid; rw [IntKind.wrap_i64]; omega
        have HP1 : RowKit.Hid ((S (padI tt 5)).size = 5) := by unfold RowKit.Hid; rw [S_size, l1]
        have HP2 : RowKit.Hid ((S (padI ver 1)).size = 1) := by unfold RowKit.Hid; rw [S_size, l2]
        have HP3 : RowKit.Hid ((S (padI bs 5)).size = 5) := by unfold RowKit.Hid; rw [S_size, l3]
        have HP4 : RowKit.Hid ((S (padI id 4)).size = 4) := by unfold RowKit.Hid; rw [S_size, l4]
        have HSl : RowKit.Hid ((S r.lang).size = 3) := by unfold RowKit.Hid; rw [S_size, h3l]
        have HSk : RowKit.Hid ((S [kindC ((k0 : Int) + 1)]).size = 1) := rfl
        have H110 : RowKit.Hid ((⟨#[110]⟩ : ByteArray).size = 1) := rfl
        have H45 : RowKit.Hid ((⟨#[52, 53, 48, 48]⟩ : ByteArray).size = 4) := rfl
        have hsum : S (formX r) = S (padI tt 5) ++ ⟨#[110]⟩ ++ S [kindC ((k0 : Int) + 1)] ++ S (padI ver 1) ++ S r.lang ++ S (padI bs 5) ++ S (padI id 4) ++ ⟨#[52, 53, 48, 48]⟩ ++ S DD ++ ⟨#[30]⟩ ++ S BB ++ ⟨#[29]⟩ := by
          rw [HForm2.out, show (⟨#[110]⟩ : ByteArray) = S [110] from rfl, show (⟨#[52, 53, 48, 48]⟩ : ByteArray) = S [52, 53, 48, 48] from rfl, show (⟨#[30]⟩ : ByteArray) = S [30] from rfl, show (⟨#[29]⟩ : ByteArray) = S [29] from rfl]
          simp only [S_append]
        have HL := Lib.hid (Nat.lt_of_lt_of_le hlt1 HB.out.size)
        have K0 := Lib.hid r0
        have K1 := Lib.hid r1
        have K2 := Lib.hid r2
        obtain ⟨sd, hsd⟩ : ∃ s, S DD = s := ⟨_, rfl⟩
        obtain ⟨sb, hsb⟩ : ∃ s, S BB = s := ⟨_, rfl⟩
        obtain ⟨sl, hsl⟩ : ∃ s, S r.lang = s := ⟨_, rfl⟩
        obtain ⟨sk, hsk⟩ : ∃ s, S [kindC ((k0 : Int) + 1)] = s := ⟨_, rfl⟩
        obtain ⟨p1, hp1⟩ : ∃ s, S (padI tt 5) = s := ⟨_, rfl⟩
        obtain ⟨p2, hp2⟩ : ∃ s, S (padI ver 1) = s := ⟨_, rfl⟩
        obtain ⟨p3, hp3⟩ : ∃ s, S (padI bs 5) = s := ⟨_, rfl⟩
        obtain ⟨p4, hp4⟩ : ∃ s, S (padI id 4) = s := ⟨_, rfl⟩
        rw [hsl] at r3
        have K3 := Lib.hid r3
        rw [hsd] at hs1
        rw [hsb] at hs2
        rw [hsl] at HSl
        rw [hsk] at HSk HEx
        rw [hp1] at HP1 c1
        rw [hp2] at HP2 c2
        rw [hp3] at HP3 c3
        rw [hp4] at HP4 c4
        rw [hsd, hsb, hsl, hsk, hp1, hp2, hp3, hp4] at hsum
        rw [hsd, hsb, hsl]
        obtain ⟨q2, hq2⟩ : ∃ q, p1 ++ (⟨#[110]⟩ : ByteArray) = q := ⟨_, rfl⟩
        have Q2 := Lib.hid hq2
        have Z2 : RowKit.Hid (¬ 9223372036854775807 < (5 : Nat) + 1) := by unfold RowKit.Hid; omega
        obtain ⟨z2, hz2⟩ : ∃ z, 5 + 1 = z := ⟨_, rfl⟩
        have HQ2 : RowKit.Hid (q2.size = z2) := by unfold RowKit.Hid; rw [← hq2, ByteArray.size_append, HP1.out, H110.out, hz2]
        obtain ⟨q10, hq10⟩ : ∃ q, q2 ++ sk = q := ⟨_, rfl⟩
        have Q10 := Lib.hid hq10
        have Z10 : RowKit.Hid (¬ 9223372036854775807 < (z2 : Nat) + 1) := by unfold RowKit.Hid; omega
        obtain ⟨z10, hz10⟩ : ∃ z, z2 + 1 = z := ⟨_, rfl⟩
        have HQ10 : RowKit.Hid (q10.size = z10) := by unfold RowKit.Hid; rw [← hq10, ByteArray.size_append, HQ2.out, HSk.out, hz10]
        obtain ⟨q14, hq14⟩ : ∃ q, q10 ++ p2 = q := ⟨_, rfl⟩
        have Q14 := Lib.hid hq14
        have Z14 : RowKit.Hid (¬ 9223372036854775807 < (z10 : Nat) + 1) := by unfold RowKit.Hid; omega
        obtain ⟨z14, hz14⟩ : ∃ z, z10 + 1 = z := ⟨_, rfl⟩
        have HQ14 : RowKit.Hid (q14.size = z14) := by unfold RowKit.Hid; rw [← hq14, ByteArray.size_append, HQ10.out, HP2.out, hz14]
        obtain ⟨q17, hq17⟩ : ∃ q, q14 ++ sl = q := ⟨_, rfl⟩
        have Q17 := Lib.hid hq17
        have Z17 : RowKit.Hid (¬ 9223372036854775807 < (z14 : Nat) + 3) := by unfold RowKit.Hid; omega
        obtain ⟨z17, hz17⟩ : ∃ z, z14 + 3 = z := ⟨_, rfl⟩
        have HQ17 : RowKit.Hid (q17.size = z17) := by unfold RowKit.Hid; rw [← hq17, ByteArray.size_append, HQ14.out, HSl.out, hz17]
        obtain ⟨q20, hq20⟩ : ∃ q, q17 ++ p3 = q := ⟨_, rfl⟩
        have Q20 := Lib.hid hq20
        have Z20 : RowKit.Hid (¬ 9223372036854775807 < (z17 : Nat) + 5) := by unfold RowKit.Hid; omega
        obtain ⟨z20, hz20⟩ : ∃ z, z17 + 5 = z := ⟨_, rfl⟩
        have HQ20 : RowKit.Hid (q20.size = z20) := by unfold RowKit.Hid; rw [← hq20, ByteArray.size_append, HQ17.out, HP3.out, hz20]
        obtain ⟨q24, hq24⟩ : ∃ q, q20 ++ p4 = q := ⟨_, rfl⟩
        have Q24 := Lib.hid hq24
        have Z24 : RowKit.Hid (¬ 9223372036854775807 < (z20 : Nat) + 4) := by unfold RowKit.Hid; omega
        obtain ⟨z24, hz24⟩ : ∃ z, z20 + 4 = z := ⟨_, rfl⟩
        have HQ24 : RowKit.Hid (q24.size = z24) := by unfold RowKit.Hid; rw [← hq24, ByteArray.size_append, HQ20.out, HP4.out, hz24]
        obtain ⟨q25, hq25⟩ : ∃ q, q24 ++ (⟨#[52, 53, 48, 48]⟩ : ByteArray) = q := ⟨_, rfl⟩
        have Q25 := Lib.hid hq25
        have Z25 : RowKit.Hid (¬ 9223372036854775807 < (z24 : Nat) + 4) := by unfold RowKit.Hid; omega
        obtain ⟨z25, hz25⟩ : ∃ z, z24 + 4 = z := ⟨_, rfl⟩
        have HQ25 : RowKit.Hid (q25.size = z25) := by unfold RowKit.Hid; rw [← hq25, ByteArray.size_append, HQ24.out, H45.out, hz25]
        have HQ25b := HQ25
        rw [← hz25, ← hz24, ← hz20, ← hz17, ← hz14, ← hz10, ← hz2] at HQ25b
        rw [hq2, hq10, hq14, hq17, hq20, hq24, hq25] at hsum
        have HSum := Lib.hid hsum
        have hl7 : DD.length = dl := hlen.2.2.1
        have hl8 : BB.length = bl := hlen.2.2.2
        have hl9 := hlen.1
        have hl10 := hlen.2.1
        have HL12 := Lib.hid (And.intro hl9 hl10)
        have HS1 := Lib.hid hs1
        have HS2 := Lib.hid hs2
        clear hr2 HRe2 HRe h9 hv hlen h3l l1 l2 l3 l4 hsd hsb hsl hsk hp1 hp2 hp3 hp4 hq2 hq10 hq14 hq17 hq20 hq24 hq25 hz2 hz10 hz14 hz17 hz20 hz24 hz25 hsum r0 r1 r2 r3 r4 hl7 hl8 hl9 hl10 hs1 hs2 hk4 hbr hbs9 hver9 hid9
        go_upto_region 23 with fail
        apply wp_region_end (R := fun u v => Below u.heap.size u v) (V := [SPR.eq _ (.int .i64 (tt : Int)), SPR.eq _ (.string p1), SPR.eq _ (.string q2), SPR.eq _ (.string (⟨#[98, 115, 109, 100]⟩ : ByteArray)), SPR.eq _ (.pointer (some ⟨w.heap.size, 2, none⟩)), SPR.eq _ (.int .i64 ((k0 : Int) + 1)), SPR.eq _ (.int .i64 (k0 : Int)), SPR.eq _ (.pointer (some ⟨w.heap.size, 2, none⟩)), SPR.eq _ (.int .i64 ((k0 : Int) + 1)), SPR.eq _ (.string sk), SPR.eq _ (.string q10), SPR.eq _ (.pointer (some ⟨w.heap.size, 1, none⟩)), SPR.eq _ (.int .i64 (ver : Int)), SPR.eq _ (.string p2), SPR.eq _ (.string q14), SPR.eq _ (.pointer (some ⟨w.heap.size, 3, none⟩)), SPR.eq _ (.string sl), SPR.eq _ (.string q17), SPR.eq _ (.int .i64 (bs : Int)), SPR.eq _ (.string p3), SPR.eq _ (.string q20), SPR.eq _ (.pointer (some ⟨w.heap.size, 0, none⟩)), SPR.eq _ (.int .i64 (id : Int)), SPR.eq _ (.string p4), SPR.eq _ (.string q24), SPR.eq _ (.string q25)]) (n := 26) (f := 2)
        case htrans => exact fun _ _ _ h k => h.trans (k.mono h.size)
        case hdrew => exact (Below.refl _ _).drew
        case hm => kernel_rfl
        case hd => kernel_rfl
        case hb => kernel_rfl
        case hA =>
          intro vs
          simp only [List.take_succ_cons, List.take_zero, puts, Act.put, List.setIfInBounds_toArray, List.set_cons_zero, List.set_cons_succ]
          exact rfl
        case hlast => kernel_rfl
        case hol => exact rfl
        case hob =>
          refine ObsR.cons _ _ _ _ _ _ _ ?o0 (ObsR.cons _ _ _ _ _ _ _ ?o1 (ObsR.cons _ _ _ _ _ _ _ ?o2 (ObsR.cons _ _ _ _ _ _ _ ?o3 (ObsR.cons _ _ _ _ _ _ _ ?o4 (ObsR.cons _ _ _ _ _ _ _ ?o5 (ObsR.cons _ _ _ _ _ _ _ ?o6 (ObsR.cons _ _ _ _ _ _ _ ?o7 (ObsR.cons _ _ _ _ _ _ _ ?o8 (ObsR.cons _ _ _ _ _ _ _ ?o9 (ObsR.cons _ _ _ _ _ _ _ ?o10 (ObsR.cons _ _ _ _ _ _ _ ?o11 (ObsR.cons _ _ _ _ _ _ _ ?o12 (ObsR.cons _ _ _ _ _ _ _ ?o13 (ObsR.cons _ _ _ _ _ _ _ ?o14 (ObsR.cons _ _ _ _ _ _ _ ?o15 (ObsR.cons _ _ _ _ _ _ _ ?o16 (ObsR.cons _ _ _ _ _ _ _ ?o17 (ObsR.cons _ _ _ _ _ _ _ ?o18 (ObsR.cons _ _ _ _ _ _ _ ?o19 (ObsR.cons _ _ _ _ _ _ _ ?o20 (ObsR.cons _ _ _ _ _ _ _ ?o21 (ObsR.cons _ _ _ _ _ _ _ ?o22 (ObsR.cons _ _ _ _ _ _ _ ?o23 (ObsR.cons _ _ _ _ _ _ _ ?o24 (ObsR.cons _ _ _ _ _ _ _ ?o25 (ObsR.nil _ _ _ _ _ _ _))))))))))))))))))))))))))
          case o0 =>
            intro vs W hw hd K hK
            go_simp
            exact hK.out _ _ rfl (Below.refl _ _)
          case o1 =>
            intro vs W hw hd K hK
            have h0 : vs 0 = .int .i64 (tt : Int) := hd 0 (by kernel_rfl)
            simp only [Nat.reduceAdd, h0] at hK ⊢
            go_simp
            refine (c1.out W).mono ?_
            rintro e W' ⟨rfl, hb'⟩
            rw [hb']
            exact hK.out _ _ rfl (Below.refl _ _)
          case o2 =>
            intro vs W hw hd K hK
            have h1 : vs 1 = .string p1 := hd 1 (by kernel_rfl)
            have hz1 := HP1.out
            have hz2 := H110.out
            have hz := Z2.out
            simp only [Nat.reduceAdd, h1] at hK ⊢
            go_simp
            exact hK.out _ _ (congrArg Value.string Q2.out) (Below.refl _ _)
          case o3 =>
            intro vs W hw hd K hK
            go_simp
            exact hK.out _ _ rfl (Below.refl _ _)
          case o4 =>
            intro vs W hw hd K hK
            go_simp
            exact hK.out _ _ rfl (Below.refl _ _)
          case o5 =>
            intro vs W hw hd K hK
            have h4 : vs 4 = .pointer (some ⟨w.heap.size, 2, none⟩) := hd 4 (by kernel_rfl)
            have kx := (hw.cell (p := ⟨w.heap.size, 2, none⟩) HL.out).trans K2.out
            simp only [Nat.reduceAdd, h4] at hK ⊢
            go_simp
            exact hK.out _ _ rfl (Below.refl _ _)
          case o6 =>
            intro vs W hw hd K hK
            have h5 : vs 5 = .int .i64 ((k0 : Int) + 1) := hd 5 (by kernel_rfl)
            have hwr := HWr.out
            simp only [Nat.reduceAdd, h5] at hK ⊢
            go_simp
            first | exact hK.out _ _ rfl (Below.refl _ _) | exact hK.out _ _ (congrArg (Value.int .i64) HWr.out) (Below.refl _ _)
          case o7 =>
            intro vs W hw hd K hK
            go_simp
            exact hK.out _ _ rfl (Below.refl _ _)
          case o8 =>
            intro vs W hw hd K hK
            have h7 : vs 7 = .pointer (some ⟨w.heap.size, 2, none⟩) := hd 7 (by kernel_rfl)
            have kx := (hw.cell (p := ⟨w.heap.size, 2, none⟩) HL.out).trans K2.out
            simp only [Nat.reduceAdd, h7] at hK ⊢
            go_simp
            exact hK.out _ _ rfl (Below.refl _ _)
          case o9 =>
            intro vs W hw hd K hK
            have h3 : vs 3 = .string (⟨#[98, 115, 109, 100]⟩ : ByteArray) := hd 3 (by kernel_rfl)
            have h6 : vs 6 = .int .i64 (k0 : Int) := hd 6 (by kernel_rfl)
            have h8 : vs 8 = .int .i64 ((k0 : Int) + 1) := hd 8 (by kernel_rfl)
            have hx := HEx.out
            have i0 : (0 : Int) ≤ (k0 : Int) := by omega
            have i1 : (k0 : Int) ≤ (k0 : Int) + 1 := by omega
            have i2 : (k0 : Int) + 1 ≤ 4 := by have := HK4.out; omega
            have i3 : ((k0 : Int) + 1).toNat = k0 + 1 := by omega
            simp only [Nat.reduceAdd, h3, h6, h8] at hK ⊢
            go_simp
            exact hK.out _ _ rfl (Below.refl _ _)
          case o10 =>
            intro vs W hw hd K hK
            have h2 : vs 2 = .string q2 := hd 2 (by kernel_rfl)
            have h9 : vs 9 = .string sk := hd 9 (by kernel_rfl)
            have hz1 := HQ2.out
            have hz2 := HSk.out
            have hz := Z10.out
            simp only [Nat.reduceAdd, h2, h9] at hK ⊢
            go_simp
            exact hK.out _ _ (congrArg Value.string Q10.out) (Below.refl _ _)
          case o11 =>
            intro vs W hw hd K hK
            go_simp
            exact hK.out _ _ rfl (Below.refl _ _)
          case o12 =>
            intro vs W hw hd K hK
            have h11 : vs 11 = .pointer (some ⟨w.heap.size, 1, none⟩) := hd 11 (by kernel_rfl)
            have kx := (hw.cell (p := ⟨w.heap.size, 1, none⟩) HL.out).trans K1.out
            simp only [Nat.reduceAdd, h11] at hK ⊢
            go_simp
            exact hK.out _ _ rfl (Below.refl _ _)
          case o13 =>
            intro vs W hw hd K hK
            have h12 : vs 12 = .int .i64 (ver : Int) := hd 12 (by kernel_rfl)
            simp only [Nat.reduceAdd, h12] at hK ⊢
            go_simp
            refine (c2.out W).mono ?_
            rintro e W' ⟨rfl, hb'⟩
            rw [hb']
            exact hK.out _ _ rfl (Below.refl _ _)
          case o14 =>
            intro vs W hw hd K hK
            have h10 : vs 10 = .string q10 := hd 10 (by kernel_rfl)
            have h13 : vs 13 = .string p2 := hd 13 (by kernel_rfl)
            have hz1 := HQ10.out
            have hz2 := HP2.out
            have hz := Z14.out
            simp only [Nat.reduceAdd, h10, h13] at hK ⊢
            go_simp
            exact hK.out _ _ (congrArg Value.string Q14.out) (Below.refl _ _)
          case o15 =>
            intro vs W hw hd K hK
            go_simp
            exact hK.out _ _ rfl (Below.refl _ _)
          case o16 =>
            intro vs W hw hd K hK
            have h15 : vs 15 = .pointer (some ⟨w.heap.size, 3, none⟩) := hd 15 (by kernel_rfl)
            have kx := (hw.cell (p := ⟨w.heap.size, 3, none⟩) HL.out).trans K3.out
            simp only [Nat.reduceAdd, h15] at hK ⊢
            go_simp
            exact hK.out _ _ rfl (Below.refl _ _)
          case o17 =>
            intro vs W hw hd K hK
            have h14 : vs 14 = .string q14 := hd 14 (by kernel_rfl)
            have h16 : vs 16 = .string sl := hd 16 (by kernel_rfl)
            have hz1 := HQ14.out
            have hz2 := HSl.out
            have hz := Z17.out
            simp only [Nat.reduceAdd, h14, h16] at hK ⊢
            go_simp
            exact hK.out _ _ (congrArg Value.string Q17.out) (Below.refl _ _)
          case o18 =>
            intro vs W hw hd K hK
            go_simp
            exact hK.out _ _ rfl (Below.refl _ _)
          case o19 =>
            intro vs W hw hd K hK
            have h18 : vs 18 = .int .i64 (bs : Int) := hd 18 (by kernel_rfl)
            simp only [Nat.reduceAdd, h18] at hK ⊢
            go_simp
            refine (c3.out W).mono ?_
            rintro e W' ⟨rfl, hb'⟩
            rw [hb']
            exact hK.out _ _ rfl (Below.refl _ _)
          case o20 =>
            intro vs W hw hd K hK
            have h17 : vs 17 = .string q17 := hd 17 (by kernel_rfl)
            have h19 : vs 19 = .string p3 := hd 19 (by kernel_rfl)
            have hz1 := HQ17.out
            have hz2 := HP3.out
            have hz := Z20.out
            simp only [Nat.reduceAdd, h17, h19] at hK ⊢
            go_simp
            exact hK.out _ _ (congrArg Value.string Q20.out) (Below.refl _ _)
          case o21 =>
            intro vs W hw hd K hK
            go_simp
            exact hK.out _ _ rfl (Below.refl _ _)
          case o22 =>
            intro vs W hw hd K hK
            have h21 : vs 21 = .pointer (some ⟨w.heap.size, 0, none⟩) := hd 21 (by kernel_rfl)
            have kx := (hw.cell (p := ⟨w.heap.size, 0, none⟩) HL.out).trans K0.out
            simp only [Nat.reduceAdd, h21] at hK ⊢
            go_simp
            exact hK.out _ _ rfl (Below.refl _ _)
          case o23 =>
            intro vs W hw hd K hK
            have h22 : vs 22 = .int .i64 (id : Int) := hd 22 (by kernel_rfl)
            simp only [Nat.reduceAdd, h22] at hK ⊢
            go_simp
            refine (c4.out W).mono ?_
            rintro e W' ⟨rfl, hb'⟩
            rw [hb']
            exact hK.out _ _ rfl (Below.refl _ _)
          case o24 =>
            intro vs W hw hd K hK
            have h20 : vs 20 = .string q20 := hd 20 (by kernel_rfl)
            have h23 : vs 23 = .string p4 := hd 23 (by kernel_rfl)
            have hz1 := HQ20.out
            have hz2 := HP4.out
            have hz := Z24.out
            simp only [Nat.reduceAdd, h20, h23] at hK ⊢
            go_simp
            exact hK.out _ _ (congrArg Value.string Q24.out) (Below.refl _ _)
          case o25 =>
            intro vs W hw hd K hK
            have h24 : vs 24 = .string q24 := hd 24 (by kernel_rfl)
            have hz1 := HQ24.out
            have hz2 := H45.out
            have hz := Z25.out
            simp only [Nat.reduceAdd, h24] at hK ⊢
            go_simp
            exact hK.out _ _ (congrArg Value.string Q25.out) (Below.refl _ _)
        case hfin =>
          intro vs W hw hv'
          have e25 : vs 25 = .string q25 := hv' 25 (by decide)
          simp only [Nat.reduceAdd, e25]
          go_simp
          have hq := HQ25b.out
          have hs1 := HS1.out
          have hs2 := HS2.out
          have h30 : (⟨#[30]⟩ : ByteArray).size = 1 := rfl
          have h29 : (⟨#[29]⟩ : ByteArray).size = 1 := rfl
          have hl9 := HL12.out.1
          have hl10 := HL12.out.2
          have y1 : ¬ 9223372036854775807 < 5 + 1 + 1 + 1 + 3 + 5 + 4 + 4 + dl := by omega
          have y2 : ¬ 9223372036854775807 < 5 + 1 + 1 + 1 + 3 + 5 + 4 + 4 + dl + 1 := by omega
          have y3 : ¬ 9223372036854775807 < 5 + 1 + 1 + 1 + 3 + 5 + 4 + 4 + dl + 1 + bl := by omega
          have y4 : ¬ 9223372036854775807 < 5 + 1 + 1 + 1 + 3 + 5 + 4 + 4 + dl + 1 + bl + 1 := by omega
          have HBz := Lib.hid (HBf.out.trans (hw.mono HBf.out.size))
          clear hv' hw e25 Q2 Q10 Q14 Q17 Q20 Q24 Q25 Z2 Z10 Z14 Z17 Z20 Z24 Z25 HQ2 HQ10 HQ14 HQ17 HQ20 HQ24 HQ25
          go_wp2
          exact HQ.out _ _ ⟨by rw [HSum.out]; rfl, HBz.out⟩
  · have t0 : (er != 0) = true := by simpa using h0
    have hre2 : (([] : List UInt8), er) = (rs, re) := by
      rw [← hre]
      unfold encX
      rw [her, if_pos h0]
    obtain ⟨rfl, rfl⟩ := Prod.mk.inj hre2
    clear hre2 hre her
    go_wp2
    exact HQ.out _ _ ⟨rfl, B1.out⟩
end

end Go.Proofs.YtiledacfdaenbaaDoor
