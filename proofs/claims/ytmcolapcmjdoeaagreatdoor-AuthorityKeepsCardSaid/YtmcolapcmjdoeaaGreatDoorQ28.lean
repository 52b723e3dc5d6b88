/- Merged: QG13. -/
import Derived.Test.YtmcolapcmjdoeaaGreatDoorQ27
namespace Go.Proofs.YtmcolapcmjdoeaaGreatDoor

section
open Go.RowKit Go.PlainAid Go.Maps
def ownV (x : Int × Bool) : Value := .agg #[.int .i64 x.1, .bool x.2]
def ownZ : Value := .agg #[.int .i64 0, .bool false]
def fNK (f : Int × List UInt8 → Option (Int × Bool)) : NK → Option Value := fun k => (f k.1).map ownV
theorem zero_owner (w : World) : (zeroValue 60).run Tryz.prog w = .ok ownZ w := by kernel_rfl
theorem fNK_upd (s : (Int × List UInt8 → Option (Int × Bool)) × Nat) (y : NK) (v : Int × Bool) : (fun z => if z = y then some (ownV v) else fNK s.1 z) = fNK (updE s (y.1, v)).1 := by
  funext z
  unfold fNK updE
  by_cases h : z = y
  · subst h
    rw [if_pos rfl]
    simp
  · have h2 : ¬ z.1 = y.1 := fun e => h (Subtype.ext e)
    rw [if_neg h]
    simp [h2]
theorem fNK_cnt (s : (Int × List UInt8 → Option (Int × Bool)) × Nat) (y : NK) (v : Int × Bool) : (if (fNK s.1 y).isSome = true then s.2 else s.2 + 1) = (updE s (y.1, v)).2 := by
  unfold fNK updE
  simp
/-- All but one block is as it was. -/
def Bt (b : Nat) (W W' : World) : Prop := W.heap.size ≤ W'.heap.size ∧ ∀ i, i ≠ b → i < W.heap.size → W'.heap[i]? = W.heap[i]?
theorem Bt.refl (b : Nat) (W : World) : Bt b W W := ⟨Nat.le_refl _, fun _ _ _ => rfl⟩
theorem Bt.trans {b : Nat} {W1 W2 W3 : World} (h1 : Bt b W1 W2) (h2 : Bt b W2 W3) : Bt b W1 W3 :=
  ⟨Nat.le_trans h1.1 h2.1, fun i hi hl => (h2.2 i hi (Nat.lt_of_lt_of_le hl h1.1)).trans (h1.2 i hi hl)⟩
theorem Bt.below {b : Nat} {W W' : World} (h : Below W.heap.size W W') : Bt b W W' := ⟨h.size, fun i _ hl => h.block i hl⟩
theorem Bt.grown {b : Nat} {W W' : World} (h : W.grownBy W' (some b)) : Bt b W W' := ⟨h.size, fun i hi hl => h.block i hl (fun e => hi (Option.some.inj e))⟩
/-- The table of the owners of these entries (the last one first). -/
def OT (b : Nat) (R : List ((Int × List UInt8) × (Int × Bool))) (w : World) : Prop := VM 65 mkNK b (fNK (mapR R).1) (mapR R).2 w
theorem OT.after {b : Nat} {R : List ((Int × List UInt8) × (Int × Bool))} {w w' : World} (h : OT b R w) (hb : Below w.heap.size w w') : OT b R w' := VM.after h hb
theorem OT.store {b : Nat} {R : List ((Int × List UInt8) × (Int × Bool))} {w : World} (h : OT b R w) (hR : R.length ≤ 1000000) (y : NK) (v : Int × Bool) :
    ∃ w', (Instr.mapUpdate 62 (.map (some b)) (.agg #[.int .i64 y.1.1, .string (S y.1.2)]) (ownV v)).run Tryz.prog w = .ok () w' ∧ OT b ((y.1, v) :: R) w' ∧ w.grownBy w' (some b) := by
  have hle := mapR_le R
  obtain ⟨w', h1, h2, h3⟩ := VM.store mkNK_inj mkNK_key h keyed_name Tryz.underlying62 (by unfold maxLen; omega) (key_nk y) (ownV v)
  rw [fNK_upd, fNK_cnt] at h2
  exact ⟨w', h1, h2, h3⟩
/-- What a heading of a file is: a text of moderate length, of a known kind. -/
def okL (L : List Au) : Prop := ∀ a ∈ L, (1 ≤ a.kind ∧ a.kind ≤ 4) ∧ (1 ≤ a.id ∧ a.id ≤ 9999) ∧ a.see.length ≤ 1000 ∧ ∀ x ∈ hdsX a, validT x = true ∧ x.length ≤ 9000
def nkA (a : Au) (x : List UInt8) (h1 : 1 ≤ a.kind ∧ a.kind ≤ 4) (h2 : validT x = true) (h3 : x.length ≤ 9000) : NK := ⟨(a.kind, normX x), ⟨by show -9223372036854775808 ≤ a.kind; omega, by show a.kind ≤ 9223372036854775807; omega⟩, by
  show (normX x).length ≤ maxLen
  have := norm_len x h2
  unfold maxLen
  omega⟩
theorem entX_le (L : List Au) (m : Nat) (h : ∀ a ∈ L, a.see.length ≤ m) : (entX L).length ≤ L.length * (m + 1) := by
  induction L with
  | nil => exact Nat.zero_le _
  | cons a r ih =>
    have h1 := ih (fun b hb => h b (by simp [hb]))
    have h2 := h a (by simp)
    have e : (entX (a :: r)).length = (hdsX a).length + (entX r).length := by
      unfold entX
      rw [List.flatMap_cons, List.length_append]
      congr 1
      exact entA_len a
    rw [e, List.length_cons, Nat.succ_mul]
    unfold hdsX
    rw [List.length_cons]
    omega

set_option maxHeartbeats 16000000 in
set_option maxRecDepth 100000 in
theorem owners_any (v : Value) (L : List Au) (w : World) (hE : Env w) (hv : AL v L w) (hz : L.length ≤ 900) (hok : okL L) :
    Calls Tryz.prog 37 #[v] w fun e w' => ∃ b, e = .returned (.map (some b)) ∧ OT b (entX L).reverse w' ∧ Below w.heap.size w w' := by
  obtain ⟨Q, hQ⟩ : ∃ Q, (fun (e : Ending) (w' : World) => ∃ b, e = .returned (.map (some b)) ∧ OT b (entX L).reverse w' ∧ Below w.heap.size w w') = Q := ⟨_, rfl⟩
  rw [hQ]
  have HQ : RowKit.Hid (∀ b W, OT b (entX L).reverse W → Below w.heap.size w W → Q (.returned (.map (some b))) W) := by
    rw [← hQ]
    exact fun b W h1 h2 => ⟨b, rfl, h1, h2⟩
  have HV := Lib.hid hv
  have HOk := Lib.hid hok
  have hlen := entX_le L 1000 (fun a ha => (hok a ha).2.2.1)
  have HLen : RowKit.Hid (∀ k, (entX (L.take k)).length ≤ 901000) := by
    intro k
    have h1 := entX_le (L.take k) 1000 (fun a ha => (hok a (List.mem_of_mem_take ha)).2.2.1)
    have h2 : (L.take k).length ≤ 900 := by rw [List.length_take]; omega
    have h3 : (L.take k).length * (1000 + 1) ≤ 900 * (1000 + 1) := Nat.mul_le_mul_right _ h2
    omega
  obtain ⟨va, vc, rfl, hc1, hc2⟩ := hv.length
  obtain ⟨n, hn⟩ : ∃ n, L.length = n := ⟨_, rfl⟩
  have HN := Lib.hid hn
  rw [hn] at HV hc1 hz ⊢
  have HE := Lib.hid (fun (W : World) (hb : Below w.heap.size w W) => hE.after hb)
  have hmm := @run_makeMap Tryz.prog
  have HM0 : RowKit.Hid (OT w.heap.size (entX (L.take 0)).reverse (w.alloc (.map #[] 0))) := VM.made _ _ w
  have HB0 : RowKit.Hid (Below w.heap.size w (w.alloc (.map #[] 0))) := (Below.refl _ _).alloc (Nat.le_refl _) _
  clear hQ hv hn hok hlen hE
  go_enter Tryz.func37, Tryz.ntmps37
  go_wp2
  go_loopw [11] (fun s11 wr => ∃ k : Nat, s11 = .int .i64 (k : Int) ∧ k ≤ n ∧ RowKit.Hid (OT w.heap.size (entX (L.take k)).reverse wr) ∧ RowKit.Hid (Below w.heap.size w wr)) (fun s11 _ => n - (intOf s11).toNat)
  case atStart => exact ⟨0, rfl, Nat.zero_le _, HM0.out, HB0.out⟩
  case round =>
    obtain ⟨k, rfl, hk, HM, HB⟩ := hrel
    clear HM0 HB0
    by_cases hkn : k < n
    · have i1 : (0 : Int) ≤ (k : Int) := by omega
      have i2 : (k : Int) < (n : Int) := by omega
      obtain ⟨g, o, cap', s, t, he, hg, c0, c1, c2, c3, c4, hq⟩ := (HV.out.after HB.out).at k (by rw [HN.out]; exact hkn)
      obtain ⟨rfl, -, hcp⟩ := Value.slice.inj he
      obtain ⟨a, ha⟩ : ∃ a, L.getD k au0 = a := ⟨_, rfl⟩
      have hmem : a ∈ L := by
        rw [← ha, getD_at13 L k (by rw [HN.out]; exact hkn)]
        exact List.getElem_mem _
      have hst : L.take (k + 1) = L.take k ++ [a] := by
        rw [List.take_succ_eq_append_getElem (by rw [HN.out]; exact hkn), ← getD_at13 L k (by rw [HN.out]; exact hkn), ha]
      rw [ha] at c0 c1 c2 hq
      obtain ⟨as2, cs2, hs2, -, -⟩ := hq.1.length
      obtain ⟨at2, ct2, ht2, -⟩ := hq.2
      obtain ⟨Wb, hWb⟩ : ∃ W, wr.alloc (.cells #[.int .i64 a.id, .int .i64 a.kind, .string (S a.heading), s, t] 31) = W := ⟨_, rfl⟩
      have bb : Below wr.heap.size wr Wb := by rw [← hWb]; exact (Below.refl _ _).alloc (Nat.le_refl _) _
      have hRb : Wb.heap[wr.heap.size]? = some (.cells #[.int .i64 a.id, .int .i64 a.kind, .string (S a.heading), s, t] 31 (0, 0)) := by rw [← hWb]; exact heap_alloc_new wr _
      have hltb : wr.heap.size < Wb.heap.size := by rw [← hWb]; simp
      obtain ⟨bx, hbx⟩ : ∃ b, wr.heap.size = b := ⟨_, rfl⟩
      have HWr := Lib.hid hbx
      rw [hbx] at hRb hltb bb
      have bb2 : Below wr.heap.size wr Wb := by rw [hbx]; exact bb
      obtain ⟨⟨y0, y1, y2, y3, y4⟩, -⟩ := acells hRb
      have hoka := HOk.out a hmem
      have cH := Lib.hid (headings_any a s t Wb (hq.1.after bb2) (by omega))
      have HMb := Lib.hid (HM.out.after bb2)
      have HBb := Lib.hid (HB.out.trans (bb2.mono HB.out.size))
      have HWb := Lib.hid hWb
      have HSt : RowKit.Hid (entX (L.take (k + 1)) = entX (L.take k) ++ entA a) := by
        unfold RowKit.Hid
        rw [hst]
        unfold entX
        rw [List.flatMap_append, List.flatMap_cons, List.flatMap_nil, List.append_nil]
      have HOa := Lib.hid hoka
      have HKey := Lib.hid (fun (j : Nat) (hj : j < (hdsX a).length) => entA_take a j hj)
      have HEl : RowKit.Hid ((entA a).length = (hdsX a).length) := entA_len a
      have hhl : (hdsX a).length ≤ 1001 := by
        unfold hdsX
        rw [List.length_cons]
        omega
      have hltm : w.heap.size < bx := by rw [← hbx]; exact VM.lt HM.out
      have HLt : RowKit.Hid (bx < Wb.heap.size ∧ w.heap.size < bx) := ⟨hltb, hltm⟩
      subst hs2 ht2
      have HRb := Lib.hid hRb
      clear he hcp ha hq hWb bb hRb hltb hst hoka HM hltm bb2 hbx
      unfold AV at cH
      go_upto_region 5 with fail
      rw [HWb.out, HWr.out]
      clear c0 c1 c2 c3 c4
      go_wp2_with fail
      refine cH.out.mono ?_
      rintro e w6 ⟨v6, rfl, hr6, hn6, hb6⟩
      obtain ⟨a6, c6, hv6, -, -⟩ := own_form13 hr6
      have HR6 := Lib.hid hr6
      obtain ⟨m, hm⟩ : ∃ m, (hdsX a).length = m := ⟨_, rfl⟩
      have HMm := Lib.hid hm
      rw [hm] at hv6 hhl
      have HM6 := Lib.hid (HMb.out.after hb6)
      have HF6 : RowKit.Hid (w6.heap[bx]? = some (.cells #[.int .i64 a.id, .int .i64 a.kind, .string (S a.heading), .slice as2 a.see.length cs2, .slice at2 a.above.length ct2] 31 (0, 0))) := (hb6.block _ HLt.out.1).trans HRb.out
      have HW6 := Lib.hid (HBb.out.trans (hb6.mono HBb.out.size))
      subst hv6
      have HL6 : RowKit.Hid (bx < w6.heap.size) := Nat.lt_of_lt_of_le HLt.out.1 hb6.size
      clear hr6 hn6 hb6 hm cH y0 y1 y2 y3 y4
      go_wp2
      go_loopw [18] (fun s18 wi => ∃ j : Nat, s18 = .int .i64 (j : Int) ∧ j ≤ m ∧ RowKit.Hid (OT w.heap.size (entX (L.take k) ++ (entA a).take j).reverse wi) ∧ RowKit.Hid (Below w.heap.size w wi) ∧ RowKit.Hid (Bt w.heap.size w6 wi)) (fun s18 _ => m - (intOf s18).toNat)
      case atStart => exact ⟨0, rfl, Nat.zero_le _, (by rw [List.take_zero, List.append_nil]; exact HM6.out), HW6.out, Bt.refl _ _⟩
      case round =>
        obtain ⟨j, rfl, hj, HMi, HBi, HTi⟩ := hrel
        clear HM6 HW6
        by_cases hjm : j < m
        · have j1 : (0 : Int) ≤ (j : Int) := by omega
          have j2 : (j : Int) < (m : Int) := by omega
          have hRi : NR Wb.heap.size (.slice a6 m c6) (hdsX a) wr := own_kept HR6.out (fun i h1 h2 => HTi.out.2 i (by have := HLt.out; omega) h2)
          obtain ⟨g2, o2, cap2, he2, hg2, d0⟩ := hRi.bl.at13 j (by rw [HMm.out]; exact hjm)
          obtain ⟨rfl, -, hcp2⟩ := Value.slice.inj he2
          have hFi := (HTi.out.2 bx (by have := HLt.out; omega) HL6.out).trans HF6.out
          have hli : bx < wr.heap.size := Nat.lt_of_lt_of_le HL6.out HTi.out.1
          obtain ⟨⟨y0, y1, y2, y3, y4⟩, -⟩ := acells hFi
          obtain ⟨y, hy⟩ : ∃ y, (hdsX a).getD j [] = y := ⟨_, rfl⟩
          have hyo : validT y = true ∧ y.length ≤ 9000 := by
            refine HOa.out.2.2.2 y ?_
            rw [← hy, List.getD_eq_getElem?_getD, List.getElem?_eq_getElem (by rw [HMm.out]; exact hjm)]
            exact List.getElem_mem _
          have hkey := HKey.out j (by rw [HMm.out]; exact hjm)
          rw [hy] at d0 hkey
          have HKy := Lib.hid hkey
          have cN := Lib.hid (fun (W : World) (hb : Below w.heap.size w W) => pNorm12_any y hyo.1 hyo.2 W (HE.out W hb))
          have HFi := Lib.hid hFi
          obtain ⟨pj, hpj⟩ : ∃ pj, decide (j = 0) = pj := ⟨_, rfl⟩
          have p1 : ((j : Int) == 0) = pj := by rw [← hpj, Bool.eq_iff_iff, beq_iff_eq, decide_eq_true_iff]; omega
          have p2 : (j == 0) = pj := by rw [← hpj, Bool.eq_iff_iff, beq_iff_eq, decide_eq_true_iff]
          have p3 : decide ((j : Int) = 0) = pj := by rw [← hpj, Bool.eq_iff_iff, decide_eq_true_iff, decide_eq_true_iff]; omega
          have HSto : RowKit.Hid (∀ W, OT w.heap.size (entX (L.take k) ++ (entA a).take j).reverse W → ∃ w', (Instr.mapUpdate 62 (.map (some w.heap.size)) (.agg #[.int .i64 a.kind, .string (S (normX y))]) (.agg #[.int .i64 a.id, .bool pj])).run Tryz.prog W = .ok () w' ∧ OT w.heap.size (entX (L.take k) ++ (entA a).take (j + 1)).reverse w' ∧ W.grownBy w' (some w.heap.size)) := by
            intro W hW
            obtain ⟨w', h1, h2, h3⟩ := hW.store (by
              rw [List.length_reverse, List.length_append, List.length_take]
              have := HLen.out k
              omega) (nkA a y HOa.out.1 hyo.1 hyo.2) (a.id, pj)
            refine ⟨w', h1, ?_, h3⟩
            rw [HKy.out, ← List.append_assoc, List.reverse_append, hpj]
            exact h2
          have f0 := Lib.hid (Below.refl wr.heap.size wr).drew
          clear hRi he2 hcp2 hg2 hkey hy hFi hpj hyo
          generalize S (normX y) = sn at *
          generalize S y = sy at *
          go_upto_region 8 with fail
          have hbd : Below w.heap.size w wr.drew := HBi.out.drew
          go_region_law (go_simp; go_at_call 36; refine (cN.out _ ?_).mono ?_; (exact hbd); rintro e w9 ⟨rfl, hb9⟩; have hb19 : Below wr.heap.size wr w9 := f0.out.trans (hb9.mono f0.out.size); have HB9 := Lib.hid hb19; have hF9 := (hb19.block bx hli).trans HFi.out; obtain ⟨⟨z0, z1, z2, z3, z4⟩, -⟩ := acells hF9; obtain ⟨w10, hs10, hm10, hg10⟩ := HSto.out w9 (HMi.out.after hb19); have HM10 := Lib.hid hm10; have HG10 := Lib.hid hg10; clear hb9 hb19 hF9 hm10 hg10)
          all_goals
            have HBn : RowKit.Hid (Below w.heap.size w w10) := (HBi.out.trans (HB9.out.mono HBi.out.size)).grown HG10.out (HBi.out.trans (HB9.out.mono HBi.out.size)).size (fun j hj => by cases hj; exact Nat.le_refl _)
            have HTn : RowKit.Hid (Bt w.heap.size w6 w10) := (HTi.out.trans (Bt.below HB9.out)).trans (Bt.grown HG10.out)
            clear hs10 z0 z1 z2 z3 z4 y0 y1 y2 y3 y4 d0 HG10 HB9 HSto cN HBi HTi HMi f0 hbd
            go_wp2
            go_roundw
            case rel => exact ⟨j + 1, by go_num, by omega, HM10.out, HBn.out, HTn.out⟩
            case measure => simp [intOf]; omega
        · obtain rfl : j = m := by omega
          have hM := HMi.out
          rw [List.take_of_length_le (l := entA a) (by rw [HEl.out, HMm.out]; exact Nat.le_refl _), ← HSt.out] at hM
          have HM9 := Lib.hid hM
          clear hM
          go_wp2
          go_roundw
          case rel => exact ⟨k + 1, by go_num, by omega, HM9.out, HBi.out⟩
          case measure => simp [intOf]; omega
    · obtain rfl : k = n := by omega
      have hT : L.take k = L := by rw [← HN.out, List.take_length]
      have hM := HM.out
      rw [hT] at hM
      have hfin := Lib.hid (HQ.out _ _ hM HB.out)
      clear hM hT
      go_wp2
      first | exact hfin.out | (go_ret; exact hfin.out)
end

end Go.Proofs.YtmcolapcmjdoeaaGreatDoor
