/- Merged: KN14. -/
import Derived.Test.YthjdopnoophigaaGreatDoorQ30
namespace Go.Proofs.YthjdopnoophigaaGreatDoor

section
open Go.RowKit Go.PlainAid
def keepU (kd : Int) (L : List Sub) : List Sub := L.filter fun s => decide (s.1 ∉ codesU kd)
theorem keepU_snoc (kd : Int) (L : List Sub) (k : Nat) (h : k < L.length) : keepU kd (L.take (k + 1)) = keepU kd (L.take k) ++ (if (L.getD k sub0).1 ∉ codesU kd then [L.getD k sub0] else []) := by
  rw [take_snoc L k h]
  unfold keepU
  rw [List.filter_append]
  congr 1
  generalize L.getD k sub0 = x
  by_cases hc : x.1 ∈ codesU kd
  · rw [if_neg (fun g => g hc)]; simp [hc]
  · rw [if_pos hc]; simp [hc]
theorem keepU_len (kd : Int) (L : List Sub) : (keepU kd L).length ≤ L.length := List.length_filter_le _ _
theorem index_codes (kd : Int) (c : UInt8) : decide (Lib.indexByte (codesU kd) c < 0) = decide (c ∉ codesU kd) := by
  have h := index_in c (codesU kd)
  have e : (codesU kd).any (fun x => decide (x = c)) = decide (c ∈ codesU kd) := by
    rw [Bool.eq_iff_iff, List.any_eq_true, decide_eq_true_iff]
    exact ⟨fun ⟨x, h1, h2⟩ => by rw [← of_decide_eq_true h2]; exact h1, fun h => ⟨c, h, decide_eq_true rfl⟩⟩
  rw [e] at h
  by_cases hc : c ∈ codesU kd
  · rw [decide_eq_true hc] at h
    have := of_decide_eq_true h
    rw [decide_eq_false (by omega), decide_eq_false (fun g => g hc)]
  · rw [decide_eq_false hc] at h
    have := of_decide_eq_false h
    rw [decide_eq_true (by omega), decide_eq_true hc]
theorem subsU_len (kd : Int) (h : List UInt8) : (subsU kd h).length ≤ h.length + 2 := by
  unfold subsU
  split
  · simp
  · split
    · rw [List.length_map, List.length_zipIdx]
      have := parts_num h
      omega
    · simp

set_option maxHeartbeats 16000000 in
set_option maxRecDepth 100000 in
theorem pPut_any (f : Fld) (u : Value) (h : List UInt8) (hv : validT h = true) (hl : h.length ≤ 10000) (w : World) (hE : Env w) (hu : QL u f.subs w) (hz : f.subs.length ≤ 100000) :
    Calls Tryz.prog 11 #[FV f u, .string (S h)] w fun e w' => ∃ v', e = .returned (FV (putX f h) v') ∧ SB (w.heap.size + 2) v' (putX f h).subs w' ∧ Below w.heap.size w w' := by
  obtain ⟨Q, hQ⟩ : ∃ Q, (fun (e : Ending) (w' : World) => ∃ v', e = .returned (FV (putX f h) v') ∧ SB (w.heap.size + 2) v' (putX f h).subs w' ∧ Below w.heap.size w w') = Q := ⟨_, rfl⟩
  rw [hQ]
  obtain ⟨a, cap, hua, hcap, hmax⟩ := hu.length
  obtain ⟨W0, hW0⟩ : ∃ W0, (w.alloc (.cells #[.string (S f.tag), .string (S f.ind), u, .int .i64 f.auth] 24)).alloc (.cells #[.string ⟨#[]⟩, .string ⟨#[]⟩, .slice none 0 0, .int .i64 0] 24) = W0 := ⟨_, rfl⟩
  have b0 : Below w.heap.size w W0 := by rw [← hW0]; exact ((Below.refl w.heap.size w).alloc (Nat.le_refl _) _).alloc (by simp) _
  have hsz0 : W0.heap.size = w.heap.size + 2 := by rw [← hW0]; simp
  have hF : W0.heap[w.heap.size]? = some (.cells #[.string (S f.tag), .string (S f.ind), u, .int .i64 f.auth] 24 (0, 0)) := by
    rw [← hW0]
    exact (Below.heap_alloc _ _ _ (by simp)).trans (heap_alloc_new w _)
  have hR : W0.heap[w.heap.size + 1]? = some (.cells #[.string ⟨#[]⟩, .string ⟨#[]⟩, .slice none 0 0, .int .i64 0] 24 (0, 0)) := by
    rw [← hW0]
    have := heap_alloc_new (w.alloc (.cells #[.string (S f.tag), .string (S f.ind), u, .int .i64 f.auth] 24)) (.cells #[.string ⟨#[]⟩, .string ⟨#[]⟩, .slice none 0 0, .int .i64 0] 24)
    simpa using this
  have HF := Lib.hid (fun (W : World) (h : Below (w.heap.size + 2) W0 W) => (h.block w.heap.size (by omega)).trans hF)
  have HR := Lib.hid (fun (W : World) (h : Below (w.heap.size + 2) W0 W) => (h.block (w.heap.size + 1) (by omega)).trans hR)
  have HB0 := Lib.hid b0
  have HSz := Lib.hid hsz0
  have HW0 := Lib.hid hW0
  have HU := Lib.hid (fun (W : World) (h : Below w.heap.size w W) => hu.after h)
  have HE := Lib.hid (fun (W : World) (h : Below w.heap.size w W) => hE.after h)
  obtain ⟨kd, hkd⟩ : ∃ kd, kindX f.tag = kd := ⟨_, rfl⟩
  have cK := Lib.hid (pKind_any f.tag W0 (hE.after b0).std)
  rw [hkd] at cK
  obtain ⟨⟨p0, p1, p2, p3⟩, -⟩ := fcells4 hF
  -- where it ends: W1 holds the row, both boxes stand
  have HEnd : RowKit.Hid (∀ (ao : Option Addr) (n cp : Nat) W1, W1.heap[w.heap.size + 1]? = some (.cells #[.string ⟨#[]⟩, .string ⟨#[]⟩, .slice none 0 0, .int .i64 0] 24 (0, 0)) → SB (w.heap.size + 2) (.slice ao n cp) (putU kd f.subs h) W1 → Below w.heap.size w W1 →
      (setF4 W1 (w.heap.size + 1) (.string (S f.tag)) (.string (S f.ind)) (.slice ao n cp) (.int .i64 f.auth)).heap[w.heap.size + 1]? = some (.cells #[.string (S f.tag), .string (S f.ind), .slice ao n cp, .int .i64 f.auth] 24 (0, 0)) ∧
      Q (.returned (.agg #[.string (S f.tag), .string (S f.ind), .slice ao n cp, .int .i64 f.auth])) (setF4 W1 (w.heap.size + 1) (.string (S f.tag)) (.string (S f.ind)) (.slice ao n cp) (.int .i64 f.auth))) := by
    intro ao n cp W1 hR1 hs hb
    refine ⟨setF4_heap hR1, ?_⟩
    rw [← hQ]
    refine ⟨_, rfl, ?_, setF4_below hb (Nat.le_succ _) _ _ _ _⟩
    show SB (w.heap.size + 2) _ (putU (kindX f.tag) f.subs h) _
    rw [hkd]
    exact hs.kept (fun i hi _ => setF4_other _ _ _ _ i (by omega))
  have cC := Lib.hid (fun (W : World) (h : Below w.heap.size w W) => pclone_any f u W (hu.after h) hz)
  have cH := Lib.hid (fun (W : World) => hcodes_any kd W)
  have cS := Lib.hid (fun (W : World) (hb : Below w.heap.size w W) => headingSubs_any kd h hv hl W (hE.after hb))
  clear hQ hW0 hF hR b0 hsz0 hu hE
  unfold FV at cC ⊢
  subst hua
  unfold setF4 at HEnd
  generalize hsb : f.subs = sb at *
  clear hsb
  generalize hnn : sb.length = n at *
  have HN := Lib.hid hnn
  clear hnn
  generalize S f.tag = t0 at *
  generalize S f.ind = t1 at *
  generalize f.auth = t3 at *
  go_enter Tryz.func11, Tryz.ntmps11
  go_upto_region 1 with fail
  rw [HW0.out]
  clear HW0
  go_wp2_with fail
  refine cK.out.mono ?_
  rintro e w1 ⟨rfl, hb1⟩
  have HB1 : RowKit.Hid (Below w.heap.size w w1) := HB0.out.trans (hb1.mono HB0.out.size)
  have HBx : RowKit.Hid (Below (w.heap.size + 2) W0 w1) := hb1.mono (by have := HSz.out; omega)
  clear hb1 cK p0 p1 p2 p3
  obtain ⟨⟨p0, p1, p2, p3⟩, q0, q1, q2, q3⟩ := fcells4 (HF.out w1 HBx.out)
  obtain ⟨⟨r0, r1, r2, r3⟩, s0, s1, s2, s3⟩ := fcells4 (HR.out w1 HBx.out)
  by_cases h0 : kd = 0
  · subst h0
    have c1 := Lib.hid (cC.out w1 HB1.out)
    clear cC cS cH
    go_wp2_with fail
    refine c1.out.mono ?_
    rintro e w2 ⟨v, rfl, hs, hb2⟩
    have HB2 : RowKit.Hid (Below (w.heap.size + 2) W0 w2) := HBx.out.trans (hb2.mono (by have := HBx.out.size; have := HSz.out; omega))
    obtain ⟨⟨z0, z1, z2, z3⟩, y0, y1, y2, y3⟩ := fcells4 (HR.out w2 HB2.out)
    obtain ⟨ao, cp, rfl⟩ := hs.form
    obtain ⟨hfin, hg⟩ := HEnd.out ao _ cp w2 (HR.out w2 HB2.out) (by
      unfold putU
      rw [if_pos rfl]
      exact hs.base (by have := HBx.out.size; have := HSz.out; omega)) (HB1.out.trans (hb2.mono HB1.out.size))
    have HFin := Lib.hid hfin
    have HG := Lib.hid hg
    clear hs hb2 hfin hg c1 HEnd p0 p1 p2 p3 r0 r1 r2 r3
    go_wp2
    (try simp only [Exit.inBlock, Exit.then])
    refine bodyPost_ret (results_cell_row rfl _ _ (w.heap.size + 1) _ _ _ _ rfl HFin.out Tryz.underlying24 rfl (by kernel_rfl)) rfl ?_
    exact HG.out
  have t0' : (kd == 0) = false := by simpa using h0
  have c1 := Lib.hid (cS.out w1 HB1.out)
  have c0 := Lib.hid (cH.out w1)
  have HPu : RowKit.Hid (putU kd sb h = subsU kd h ++ keepU kd sb) := by
    unfold RowKit.Hid putU
    rw [if_neg h0]
    rfl
  have cI := Lib.hid (fun (c : UInt8) (W : World) => cIndex (codesU kd) c W)
  have HIx := Lib.hid (fun c => index_codes kd c)
  have hsl := subsU_len kd h
  clear cC cS cH h0
  generalize S (codesU kd) = cs at *
  go_wp2_with fail
  refine c0.out.mono ?_
  rintro e w2 ⟨rfl, hw2⟩
  rw [hw2]
  clear hw2
  go_wp2_with fail
  refine c1.out.mono ?_
  rintro e w3 ⟨v, rfl, hs, hb3⟩
  have HB3 : RowKit.Hid (Below w.heap.size w w3) := HB1.out.trans (hb3.mono HB1.out.size)
  have HB3x : RowKit.Hid (Below (w.heap.size + 2) W0 w3) := HBx.out.trans (hb3.mono (by have := HBx.out.size; have := HSz.out; omega))
  have HS3 : RowKit.Hid (SB (w.heap.size + 2) v (subsU kd h ++ keepU kd (sb.take 0)) w3) := by
    have e : subsU kd h ++ keepU kd (sb.take 0) = subsU kd h := by simp [keepU]
    rw [e]
    exact hs.base (by have := HBx.out.size; have := HSz.out; omega)
  clear p0 p1 p2 p3 q0 q1 q2 q3 r0 r1 r2 r3 s0 s1 s2 s3 hs hb3 c0 c1
  obtain ⟨⟨p0, p1, p2, p3⟩, -⟩ := fcells4 (HF.out w3 HB3x.out)
  go_wp2
  clear p0 p1 p2 p3
  go_loopw [7, 25] (fun s7 s25 wr => ∃ k : Nat, s25 = .int .i64 (k : Int) ∧ k ≤ n ∧ RowKit.Hid (SB (w.heap.size + 2) s7 (subsU kd h ++ keepU kd (sb.take k)) wr) ∧ RowKit.Hid (Below w.heap.size w wr ∧ Below (w.heap.size + 2) W0 wr)) (fun _ s25 _ => n - (intOf s25).toNat)
  case atStart => exact ⟨0, rfl, Nat.zero_le _, HS3.out, HB3.out, HB3x.out⟩
  case round =>
    obtain ⟨k, rfl, hk, HS, HB⟩ := hrel
    clear HS3
    by_cases hkn : k < n
    · have i1 : (0 : Int) ≤ (k : Int) := by omega
      have i2 : (k : Int) < (n : Int) := by omega
      have hqu := HU.out wr HB.out.1
      obtain ⟨au, cpu, he, -, -, -, hx⟩ := id hqu
      obtain ⟨rfl, -, rfl⟩ := Value.slice.inj he
      obtain ⟨g, o, rfl, hg, c1, c2⟩ := hx k (by rw [HN.out]; exact hkn)
      have hsn := keepU_snoc kd sb k (by rw [HN.out]; exact hkn)
      have hlen : (keepU kd (sb.take k)).length ≤ k := Nat.le_trans (keepU_len kd _) (by rw [List.length_take]; omega)
      obtain ⟨⟨sc, sv⟩, hsub⟩ : ∃ z, sb.getD k sub0 = z := ⟨_, rfl⟩
      rw [hsub] at c1 c2 hsn
      obtain ⟨wb, hwb⟩ : ∃ W, wr.alloc (.cells #[.int .u8 (sc.toNat : Int), .string (S sv)] 48) = W := ⟨_, rfl⟩
      have bb : Below wr.heap.size wr wb := by rw [← hwb]; exact (Below.refl _ _).alloc (Nat.le_refl _) _
      have hs2 : w.heap.size + 2 ≤ wr.heap.size := by have := HB.out.2.size; have := HSz.out; omega
      have HBb : RowKit.Hid (Below w.heap.size w wb ∧ Below (w.heap.size + 2) W0 wb) := ⟨HB.out.1.trans (bb.mono HB.out.1.size), HB.out.2.trans (bb.mono hs2)⟩
      have HSb := Lib.hid (HS.out.after bb)
      have hXb : wb.heap[wr.heap.size]? = some (.cells #[.int .u8 (sc.toNat : Int), .string (S sv)] 48 (0, 0)) := by rw [← hwb]; exact heap_alloc_new wr _
      have y0 : wb.cell? ⟨wr.heap.size, 0, none⟩ = some (.int .u8 (sc.toNat : Int)) := by rw [Lib.cell_of_heap hXb]; rfl
      have y1 : wb.cell? ⟨wr.heap.size, 1, none⟩ = some (.string (S sv)) := by rw [Lib.cell_of_heap hXb]; rfl
      have HWb := Lib.hid hwb
      have HLen := Lib.hid hlen
      have HSl := Lib.hid hsl
      have HS2 := Lib.hid hs2
      have ci := Lib.hid (cI.out sc wb)
      have hix := HIx.out sc
      have hbs : wb.heap.size = wr.heap.size + 1 := by rw [← hwb]; simp
      have HBs := Lib.hid hbs
      clear hqu he hx hg hsub hwb bb hs2 hXb hlen HS HB hbs hsl
      obtain ⟨M, hM⟩ : ∃ M, subsU kd h ++ keepU kd (sb.take k) = M := ⟨_, rfl⟩
      have HML : RowKit.Hid (M.length ≤ 1000000) := by
        have := HLen.out
        have := HSl.out
        unfold RowKit.Hid
        rw [← hM, List.length_append]
        omega
      rw [hM] at HSb
      by_cases hc : sc ∈ codesU kd
      · rw [show decide (sc ∉ codesU kd) = false from decide_eq_false (fun g => g hc)] at hix
        rw [if_neg (fun g => g hc), List.append_nil] at hsn
        have HSn : RowKit.Hid (subsU kd h ++ keepU kd (sb.take (k + 1)) = M) := by
          unfold RowKit.Hid
          rw [hsn, hM]
        clear hsn hM hc
        generalize Lib.indexByte (codesU kd) sc = ix at *
        generalize ((sc.toNat : Nat) : Int) = cx at *
        go_upto_region 9 with fail
        rw [HWb.out]
        clear c1 c2
        go_wp2_with fail
        refine ci.out.mono ?_
        rintro e w5 ⟨rfl, hw5⟩
        rw [hw5]
        clear hw5
        go_wp2
        go_roundw
        case rel => exact ⟨k + 1, by go_num, by omega, by rw [HSn.out]; exact HSb.out, HBb.out⟩
        case measure => simp [intOf]; omega
      · rw [show decide (sc ∉ codesU kd) = true from decide_eq_true hc] at hix
        rw [if_pos hc] at hsn
        have HSn : RowKit.Hid (subsU kd h ++ keepU kd (sb.take (k + 1)) = M ++ [(sc, sv)]) := by
          unfold RowKit.Hid
          rw [hsn, ← hM, List.append_assoc]
        clear hsn hM hc
        generalize Lib.indexByte (codesU kd) sc = ix at *
        go_upto_region 9 with fail
        rw [HWb.out]
        clear c1 c2
        go_wp2_with fail
        refine ci.out.mono ?_
        rintro e w5 ⟨rfl, hw5⟩
        rw [hw5]
        clear hw5
        go_wp2_with (at_builtin; refine append_sb _ rfl _ _ rfl (w.heap.size + 2) u7 M sc sv rfl HSb.out rfl (by have := HML.out; omega) (by have := HBs.out; have := HS2.out; omega) (w.heap.size + 2) W0 (Nat.le_refl _) HBb.out.2 ?_; intro v' w' hs' hb' hB')
        have HS3 : RowKit.Hid (SB (w.heap.size + 2) v' (subsU kd h ++ keepU kd (sb.take (k + 1))) w') := by rw [HSn.out]; exact hs'
        have HB3 : RowKit.Hid (Below w.heap.size w w' ∧ Below (w.heap.size + 2) W0 w') := ⟨HB0.out.trans (hb'.mono (Nat.le_add_right _ _)), hb'⟩
        clear hs' hb' hB' HSb HBb HSn
        go_wp2
        go_roundw
        case rel => exact ⟨k + 1, by go_num, by omega, HS3.out, HB3.out⟩
        case measure => simp [intOf]; omega
    · obtain rfl : k = n := by omega
      have hT : sb.take k = sb := by rw [← HN.out, List.take_length]
      rw [hT, ← HPu.out] at HS
      have hFr := HF.out wr HB.out.2
      have hRr := HR.out wr HB.out.2
      obtain ⟨⟨p0, p1, p2, p3⟩, q0, q1, q2, q3⟩ := fcells4 hFr
      obtain ⟨⟨r0, r1, r2, r3⟩, s0, s1, s2, s3⟩ := fcells4 hRr
      obtain ⟨ao, cp, rfl⟩ := HS.out.form
      obtain ⟨hfin, hg⟩ := HEnd.out ao _ cp (wr.setCell ⟨w.heap.size, 2, none⟩ (.slice ao (putU kd sb h).length cp)) ((heap_setn _ _ _ _ (by simp)).trans hRr) (HS.out.kept (fun i hi _ => heap_setn _ _ _ _ (by simp; omega))) (HB.out.1.setCell (p := ⟨w.heap.size, 2, none⟩) (Nat.le_refl _) _)
      have HFin := Lib.hid hfin
      have HG := Lib.hid hg
      clear hfin hg HEnd hFr hRr HS HB
      generalize (putU kd sb h).length = m at *
      go_wp2
      (try simp only [Exit.inBlock, Exit.then])
      refine bodyPost_ret (results_cell_row rfl _ _ (w.heap.size + 1) _ _ _ _ rfl HFin.out Tryz.underlying24 rfl (by kernel_rfl)) rfl ?_
      exact HG.out
end

end Go.Proofs.YthjdopnoophigaaGreatDoor
