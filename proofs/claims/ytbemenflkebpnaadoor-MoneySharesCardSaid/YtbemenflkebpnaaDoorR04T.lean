/- libraryref04.Share, where it divides. -/
import Derived.Test.YtbemenflkebpnaaDoorR04S
import Derived.Test.YtbemenflkebpnaaDoorPair
namespace Go.Proofs.YtbemenflkebpnaaDoor
open Go.RowKit

set_option maxHeartbeats 32000000 in
set_option maxRecDepth 100000 in
theorem refShare_ok (t : Nat) (v : Value) (l : List Int) (w : World) (hv : IL v l w) (ht : t ≤ 100000000) (h1 : 1 ≤ l.length) (h16 : l.length ≤ 16)
    (hg : ∀ i (h : i < l.length), okW l[i] = true) (hs : sumN (wN l) l.length ≠ 0) :
    Calls Tryd.prog 16 #[.int .i64 (t : Int), v] w fun e w' => ∃ v', e = .returned (.tuple #[v', .int .i64 0]) ∧ IL v' (shareL (t : Int) l) w' ∧ Below w.heap.size w w' := by
  obtain ⟨a, cap, rfl, hc, hcell⟩ := hv
  have c1 := Lib.hid (fun W => refRight_any (t : Int) true ((rightI_iff t).2 (by omega)) W)
  obtain ⟨i0, hi0, hz0, hz1, hz2⟩ : ∃ i0, Tryd.prog.info? 3 = some i0 ∧ i0.zero = some (.int .i64 0) ∧ i0.size = 1 ∧ i0.bytes = 8 := by
    obtain ⟨i0, h0, h2⟩ := Option.map_eq_some_iff.1 infoInt
    simp only [Prod.mk.injEq] at h2
    exact ⟨i0, h0, h2.1, h2.2.1, h2.2.2⟩
  obtain ⟨n, hn⟩ : ∃ n, l.length = n := ⟨_, rfl⟩
  have d1 : decide ((n : Int) < 1) = false := by simp; omega
  have d2 : decide ((16 : Int) < (n : Int)) = false := by simp; omega
  have hw : ∀ i, i < n → ∃ g o, a = some ⟨g, o, none⟩ ∧ g < w.heap.size ∧ w.cell? ⟨g, o + i, none⟩ = some (.int .i64 (wN l i : Nat)) ∧ wN l i ≤ 1000 := by
    intro i hi
    have hil : i < l.length := by omega
    obtain ⟨g, o, ha, hgl, hk⟩ := hcell i l[i] (List.getElem?_eq_getElem hil)
    have := okW_at l i hil (hg i hil)
    rw [this.1] at hk
    exact ⟨g, o, ha, hgl, hk, this.2⟩
  have HSh : RowKit.Hid (shareL (t : Int) l = (List.range n).map fun i => ((share t n (wN l) i : Nat) : Int)) := by unfold RowKit.Hid shareL; rw [hn, Int.toNat_natCast]
  rw [hn] at hc h1 h16 hs ⊢
  have HW := Lib.hid hw
  have hs0 : 0 < sumN (wN l) n := Nat.pos_of_ne_zero hs
  have HSum := Lib.hid (fun k (hk : k ≤ n) => (sumW_le l k fun i hi => (hw i (by omega)).choose_spec.choose_spec.2.2.2))
  have HL := Lib.hid (left_mul t n (wN l) hs0)
  have HLt := Lib.hid (left_lt t n (wN l) hs0)
  clear hcell hg hw hs hn
  generalize shareL (t : Int) l = sl at HSh
  generalize wN l = wf at *
  have hb0 := Below.refl w.heap.size w
  go_enter Tryd.func16, Tryd.ntmps16
  go_wp2_with fail
  refine (c1.out _).mono ?_
  rintro e w1 ⟨rfl, rfl⟩
  clear c1
  go_wp2
  go_loopw [6, 7] (fun s i wr => ∃ k : Nat, k ≤ n ∧ i = .int .i64 (k : Int) ∧ s = .int .i64 ((sumN wf k : Nat) : Int) ∧ wr = w1) (fun _ i _ => n - (intOf i).toNat)
  case atStart => exact ⟨0, Nat.zero_le _, rfl, rfl, rfl⟩
  case round =>
    obtain ⟨k, hk, rfl, rfl, rfl⟩ := hrel
    by_cases hkn : k < n
    · obtain ⟨g, o, rfl, hg, k1, hx2⟩ := HW.out k hkn
      have i1 : (0 : Int) ≤ (k : Int) := by omega
      have i2 : (k : Int) < (n : Int) := by omega
      have HV : RowKit.Hid (sumN wf (k + 1) = sumN wf k + wf k) := rfl
      have hsb : sumN wf k ≤ 16000 := by have := HSum.out k hk; omega
      generalize sumN wf k = s at *
      generalize wf k = x at *
      have t1 : decide ((x : Int) < 0) = false := by simp
      have t2 : decide ((1000 : Int) < (x : Int)) = false := by simp; omega
      go_wp2
      go_roundw
      case rel => exact ⟨k + 1, by omega, by go_num, by rw [HV.out]; go_num, trivial⟩
      case measure => simp [intOf]; omega
    · obtain rfl : k = n := by omega
      have hsb : sumN wf k ≤ 16000 := by have := HSum.out k hk; omega
      obtain ⟨s, hS⟩ : ∃ s, sumN wf k = s := ⟨_, rfl⟩
      have HB : RowKit.Hid (∀ i, i < k → baseW t s (wf i) + sumN (fun i => baseW t s (wf i)) i ≤ t) := by
        intro i hi
        have h1 := HL.out.1
        have h2 := sumN_mono (fun i => baseW t (sumN wf k) (wf i)) (i + 1) k (by omega)
        rw [hS] at h1 h2
        have h3 : sumN (fun i => baseW t s (wf i)) (i + 1) = sumN (fun i => baseW t s (wf i)) i + baseW t s (wf i) := rfl
        omega
      have HLE : RowKit.Hid (leftN t k wf = t - sumN (fun i => baseW t s (wf i)) k) := by unfold RowKit.Hid leftN; rw [hS]
      have HSR : RowKit.Hid (∀ i, share t k wf i = baseW t s (wf i) + if marks (fun j => remW t s (wf j)) k (leftN t k wf) i = true then 1 else 0) := by intro i; unfold share; rw [hS]
      rw [hS] at hs0 hsb ⊢
      have t1 : ((s : Int) == 0) = false := by simp; omega
      have t2 : ¬ (s : Int) = 0 := by omega
      clear hk hkn HL HSum
      obtain ⟨w0, rfl⟩ : ∃ w0 : World, w0 = wr := ⟨_, rfl⟩
      go_wp2
      go_loopw [8, 9, 10, 11] (fun p r lf i wr => ∃ j : Nat, j ≤ k ∧ i = .int .i64 (j : Int) ∧ lf = .int .i64 ((t - sumN (fun i => baseW t s (wf i)) j : Nat) : Int) ∧ wr.ownsRow w0.heap.size 3 1 p j (rowN (fun i => baseW t s (wf i)) j) ∧ wr.ownsRow w0.heap.size 3 1 r j (rowN (fun i => remW t s (wf i)) j) ∧ (p.ownBlock = none ∨ p.ownBlock ≠ r.ownBlock) ∧ (r.ownBlock = none ∨ r.ownBlock ≠ p.ownBlock) ∧ Below w0.heap.size w0 wr) (fun _ _ _ i _ => k - (intOf i).toNat)
      case atStart => exact ⟨0, Nat.zero_le _, rfl, rfl, World.ownsRow_nil _ _ _ _, World.ownsRow_nil _ _ _ _, .inl rfl, .inl rfl, hb0⟩
      case round =>
        obtain ⟨j, hj, rfl, rfl, hop, hor, hap, har, hbw⟩ := hrel
        by_cases hlt : j < k
        · obtain ⟨g, o, rfl, hg, k0, hx2⟩ := HW.out j hlt
          have hk1 : wr.cell? ⟨g, o + j, none⟩ = some (.int .i64 (wf j : Nat)) := (hbw.cell (p := ⟨g, o + j, none⟩) hg).trans k0
          have hB := HB.out j hlt
          have HV : RowKit.Hid (t - sumN (fun i => baseW t s (wf i)) (j + 1) = t - sumN (fun i => baseW t s (wf i)) j - baseW t s (wf j)) := by
            unfold RowKit.Hid
            have : sumN (fun i => baseW t s (wf i)) (j + 1) = sumN (fun i => baseW t s (wf i)) j + baseW t s (wf j) := rfl
            omega
          have HP : RowKit.Hid (rowN (fun i => baseW t s (wf i)) (j + 1) = rowN (fun i => baseW t s (wf i)) j ++ [.int .i64 (baseW t s (wf j) : Nat)]) := rowN_succ _ _
          have HR : RowKit.Hid (rowN (fun i => remW t s (wf i)) (j + 1) = rowN (fun i => remW t s (wf i)) j ++ [.int .i64 (remW t s (wf j) : Nat)]) := rowN_succ _ _
          have hlenp : (rowN (fun i => baseW t s (wf i)) j).length = j := by simp [rowN]
          have hpx : t * wf j ≤ 100000000000 := Nat.mul_le_mul ht hx2
          have hcx : (t : Int) * ((wf j : Nat) : Int) = ((t * wf j : Nat) : Int) := (Int.natCast_mul _ _).symm
          have q1 : Int.tdiv ((t * wf j : Nat) : Int) (s : Int) = (baseW t s (wf j) : Nat) := by rw [Int.tdiv_eq_ediv_of_nonneg (by omega)]; exact (Int.natCast_ediv _ _).symm
          have q2 : ((t * wf j : Nat) : Int) / (s : Int) = (baseW t s (wf j) : Nat) := (Int.natCast_ediv _ _).symm
          have m1 : Int.tmod ((t * wf j : Nat) : Int) (s : Int) = (remW t s (wf j) : Nat) := by rw [Int.tmod_eq_emod_of_nonneg (by omega)]; exact (Int.natCast_emod _ _).symm
          have m2 : ((t * wf j : Nat) : Int) % (s : Int) = (remW t s (wf j) : Nat) := (Int.natCast_emod _ _).symm
          have hbq : baseW t s (wf j) ≤ 100000000000 := Nat.le_trans (Nat.div_le_self _ _) hpx
          have hbr : remW t s (wf j) ≤ 16000 := by have : remW t s (wf j) < s := Nat.mod_lt _ hs0; omega
          generalize sumN (fun i => baseW t s (wf i)) j = sb at *
          generalize baseW t s (wf j) = q at *
          generalize remW t s (wf j) = m at *
          generalize t * wf j = tx at *
          generalize wf j = x at *
          generalize rowN (fun i => baseW t s (wf i)) j = rp at *
          generalize rowN (fun i => remW t s (wf i)) j = rr at *
          have i1 : (0 : Int) ≤ (j : Int) := by omega
          have i2 : (j : Int) < (k : Int) := by omega
          have hwr := hbw.size
          have HOP := Lib.hid hop
          have HOR := Lib.hid hor
          have HAP := Lib.hid hap
          have HAR := Lib.hid har
          have HBW := Lib.hid hbw
          clear hop hor hap har hbw hb0 k0
          go_wp2_with (at_builtin; go_loud (refine wpList_append_two _ rfl _ _ 29 rfl w0.heap.size 3 i0 (.int .i64 0) 1 8 Tryd.underlying29 hi0 hz0 hz1 hz2 rfl (by decide) _ _ _ rfl (HOP.out.alloc _) ⟨wr.heap.size, 0, none⟩ 1 1 [.int .i64 (q : Int)] rfl rfl (cells_one _ _ _) (by intro u hu; simp at hu; subst hu; rfl) (by decide) (by unfold maxLen; omega) (by omega) (by simp; omega) ?_))
          intro p2 W1 hop2 hg2 hnn2 hbl2
          have hor2 := own_apart (HOR.out.alloc (.cells #[.int .i64 (q : Int)] 3)) hg2 HAR.out (by rw [show (wr.alloc (.cells #[.int .i64 (q : Int)] 3)).heap.size = wr.heap.size + 1 by simp]; exact hbl2)
          have hB1 : Below w0.heap.size w0 W1 := (HBW.out.alloc hwr _).grown hg2 (by simp; omega) (fun y hy => ((HOP.out.alloc (.cells #[.int .i64 (q : Int)] 3)).lt y hy).1)
          have hap2 : p2.ownBlock = none ∨ p2.ownBlock ≠ u9.ownBlock := by
            rcases hor2.2 with h | h
            · rcases hbl2 with h3 | h3
              · rcases HAP.out with h4 | h4
                · exact .inl (h3.trans h4)
                · exact .inr (by rw [h3]; exact h4)
              · exact .inr (by rw [h3, h]; exact fun h => by cases h)
            · exact .inr fun h3 => h h3.symm
          have hW1 := hB1.size
          have hk2 : W1.cell? ⟨g, o + j, none⟩ = some (.int .i64 (x : Nat)) := by
            rw [hB1.cell (p := ⟨g, o + j, none⟩) hg, ← HBW.out.cell (p := ⟨g, o + j, none⟩) hg]
            exact hk1
          have HOP2 := Lib.hid hop2
          have HOR2 := Lib.hid hor2.1
          have HAR2 := Lib.hid hor2.2
          have HAP2 := Lib.hid hap2
          have HB1 := Lib.hid hB1
          have HNN := Lib.hid hnn2
          clear hop2 hor2 hap2 hB1 hg2 hbl2 hnn2 hk1 HOP HOR HAP HAR
          go_wp2_with (at_builtin; go_loud (refine wpList_append_two _ rfl _ _ 29 rfl w0.heap.size 3 i0 (.int .i64 0) 1 8 Tryd.underlying29 hi0 hz0 hz1 hz2 rfl (by decide) _ _ _ rfl (HOR2.out.alloc _) ⟨W1.heap.size, 0, none⟩ 1 1 [.int .i64 (m : Int)] rfl rfl (cells_one _ _ _) (by intro u hu; simp at hu; subst hu; rfl) (by decide) (by unfold maxLen; omega) (by omega) (by simp; omega) ?_))
          intro r2 W2 hor3 hg3 hnn3 hbl3
          have hop3 := own_apart (HOP2.out.alloc (.cells #[.int .i64 (m : Int)] 3)) hg3 HAP2.out (by rw [show (W1.alloc (.cells #[.int .i64 (m : Int)] 3)).heap.size = W1.heap.size + 1 by simp]; exact hbl3)
          have hB2 : Below w0.heap.size w0 W2 := (HB1.out.alloc hW1 _).grown hg3 (by simp; omega) (fun y hy => ((HOR2.out.alloc (.cells #[.int .i64 (m : Int)] 3)).lt y hy).1)
          have har3 : r2.ownBlock = none ∨ r2.ownBlock ≠ p2.ownBlock := by
            rcases hop3.2 with h | h
            · rcases hbl3 with h3 | h3
              · rcases HAR2.out with h4 | h4
                · exact .inl (h3.trans h4)
                · exact .inr (by rw [h3]; exact h4)
              · exact .inr (by rw [h3, h]; exact fun h => by cases h)
            · exact .inr fun h3 => h h3.symm
          have hW2 := hB2.size
          obtain ⟨gp, cp, rfl, hgp, hcp, hk3⟩ : ∃ gp cp, p2 = .slice (some ⟨gp, 0, none⟩) (j + 1) cp ∧ gp < W2.heap.size ∧ j + 1 ≤ cp ∧ W2.cell? ⟨gp, j, none⟩ = some (.int .i64 (q : Nat)) := by
            have hO := hop3.1
            rcases hO.2 with ⟨h0, _⟩ | ⟨gp, cp, cur, rfl, _, hgg, hcp, _⟩
            · exact absurd h0 HNN.out
            · refine ⟨gp, cp, rfl, (Array.getElem?_eq_some_iff.1 hgg).1, hcp, ?_⟩
              have h1 := hO.cells (g := gp) rfl j (.int .i64 (q : Nat)) (by rw [List.getElem?_append_right (by omega), hlenp, Nat.sub_self]; rfl)
              have hadd : (⟨gp, 0, none⟩ : Addr).add j = ⟨gp, j, none⟩ := by unfold Addr.add; split <;> simp_all
              rwa [hadd] at h1
          have HOP3 := Lib.hid hop3.1
          have HAP3 := Lib.hid hop3.2
          have HOR3 := Lib.hid hor3
          have HAR3 := Lib.hid har3
          have HB2 := Lib.hid hB2
          clear hop3 hor3 har3 hB2 hg3 hbl3 hnn3 hk2 HOP2 HOR2 HAP2 HAR2 HB1
          have i3 : (j : Int) < ((j + 1 : Nat) : Int) := by omega
          have i4 : (j : Int) < (j : Int) + 1 := by omega
          have e1 : ((t - sb : Nat) : Int) - (q : Int) = ((t - sb - q : Nat) : Int) := by omega
          go_wp2
          go_roundw
          case rel => exact ⟨j + 1, by omega, by go_num, by rw [HV.out], by rw [HP.out]; exact HOP3.out, by rw [HR.out]; exact HOR3.out, HAP3.out, HAR3.out, HB2.out⟩
          case measure => simp [intOf]; omega
        · obtain rfl : j = k := by omega
          obtain ⟨gp, gr, cp, cr, rfl, rfl, hcp, hcr, hgp, hPR⟩ := PR.of h1 hbw hop hor hap
          rw [← HLE.out]
          have HLt2 := HLt.out
          have HB2 : RowKit.Hid (∀ i, i < j → baseW t s (wf i) ≤ t) := fun i hi => by have := HB.out i hi; omega
          clear hop hor hap har hbw hb0 HB HLE HLt HW hj hlt hs0
          generalize leftN t j wf = L at *
          obtain ⟨rm, hrm⟩ : ∃ rm, (fun i => remW t s (wf i)) = rm := ⟨_, rfl⟩
          obtain ⟨bs, hbs⟩ : ∃ bs, (fun i => baseW t s (wf i)) = bs := ⟨_, rfl⟩
          have HSR2 : RowKit.Hid (∀ i, share t j wf i = bs i + if marks rm j L i = true then 1 else 0) := fun i => by rw [HSR.out i, hrm, ← hbs]
          have HB3 : RowKit.Hid (∀ i, i < j → bs i ≤ t) := fun i hi => by rw [← hbs]; exact HB2.out i hi
          have hPR2 : PR w0 gp gr j (fun i => (bs i : Int) + if marks rm j 0 i = true then 1 else 0) (restI rm j 0) wr := hPR.congr (fun i _ => by rw [← hbs]; simp [marks]) (fun i _ => by rw [← hrm]; simp [restI, marks])
          clear hPR hrm hbs HSR HB2
          have i5 : (j : Int) ≤ (cp : Int) := by omega
          have i6 : (j : Int) ≤ (cr : Int) := by omega
          go_wp2
          go_loopw [10] (fun lf wr => ∃ c, c ≤ L ∧ lf = .int .i64 ((L - c : Nat) : Int) ∧ PR w0 gp gr j (fun i => (bs i : Int) + if marks rm j c i = true then 1 else 0) (restI rm j c) wr) (fun lf _ => (intOf lf).toNat)
          case atStart => exact ⟨0, Nat.zero_le _, rfl, hPR2⟩
          case round =>
            obtain ⟨c, hc, rfl, hPR⟩ := hrel
            clear hPR2
            by_cases hlt : c < L
            · have t3 : decide ((0 : Int) < ((L - c : Nat) : Int)) = true := by simp; omega
              go_wp2
              go_loopw [12, 13] (fun b i wr => ∃ q m : Nat, 1 ≤ m ∧ m ≤ j ∧ q < m ∧ i = .int .i64 (m : Int) ∧ b = .int .i64 (q : Int) ∧ RowKit.Hid (∀ x, x < m → restI rm j c x ≤ restI rm j c q ∧ (x < q → restI rm j c x < restI rm j c q)) ∧ PR w0 gp gr j (fun i => (bs i : Int) + if marks rm j c i = true then 1 else 0) (restI rm j c) wr) (fun _ i _ => j - (intOf i).toNat)
              case atStart =>
                refine ⟨0, 1, Nat.le_refl _, h1, Nat.one_pos, rfl, rfl, ?_, hPR⟩
                intro x hx
                obtain rfl : x = 0 := by omega
                exact ⟨Int.le_refl _, fun h => absurd h (Nat.lt_irrefl _)⟩
              case round =>
                obtain ⟨q, m, hm1, hmj, hqm, rfl, rfl, HBest, hPR3⟩ := hrel
                clear hPR
                have i1 : (0 : Int) ≤ (m : Int) := by omega
                have i3 : (0 : Int) ≤ (q : Int) := by omega
                have i4 : (q : Int) < (j : Int) := by omega
                by_cases hmn : m < j
                · have i2 : (m : Int) < (j : Int) := by omega
                  have k1 := hPR3.cr m hmn
                  have k2 := hPR3.cr q (by omega)
                  have HPR := Lib.hid hPR3
                  obtain ⟨x, hx⟩ : ∃ x, restI rm j c m = x := ⟨_, rfl⟩
                  obtain ⟨y, hy⟩ : ∃ y, restI rm j c q = y := ⟨_, rfl⟩
                  have HX := Lib.hid hx
                  have HY := Lib.hid hy
                  rw [hx] at k1
                  rw [hy] at k2
                  clear hPR3 hx hy
                  by_cases hgt : y < x
                  · have t4 : decide (y < x) = true := decide_eq_true hgt
                    have HNew : RowKit.Hid (∀ z, z < m + 1 → restI rm j c z ≤ restI rm j c m ∧ (z < m → restI rm j c z < restI rm j c m)) := by
                      intro z hz
                      rw [HX.out]
                      rcases Nat.lt_or_ge z m with h | h
                      · have := (HBest.out z h).1
                        rw [HY.out] at this
                        exact ⟨by omega, fun _ => by omega⟩
                      · obtain rfl : z = m := by omega
                        rw [HX.out]
                        exact ⟨Int.le_refl _, fun h => by omega⟩
                    clear hgt
                    go_wp2
                    go_region
                    go_wp2
                    go_roundw
                    case rel => exact ⟨m, m + 1, by omega, by omega, by omega, by go_num, rfl, HNew, HPR.out.drew⟩
                    case measure => simp [intOf]; omega
                  · have t4 : decide (y < x) = false := decide_eq_false hgt
                    have HNew : RowKit.Hid (∀ z, z < m + 1 → restI rm j c z ≤ restI rm j c q ∧ (z < q → restI rm j c z < restI rm j c q)) := by
                      intro z hz
                      rcases Nat.lt_or_ge z m with h | h
                      · exact HBest.out z h
                      · obtain rfl : z = m := by omega
                        rw [HX.out, HY.out]
                        exact ⟨by omega, fun h => by omega⟩
                    clear hgt
                    go_wp2
                    go_region
                    go_wp2
                    go_roundw
                    case rel => exact ⟨q, m + 1, by omega, by omega, by omega, by go_num, rfl, HNew, HPR.out.drew⟩
                    case measure => simp [intOf]; omega
                · obtain rfl : m = j := by omega
                  obtain ⟨hM, hst⟩ := greedy rm m c q (by omega) (by omega) HBest.out
                  have k1 := hPR3.cp q (by omega)
                  rw [hM] at k1
                  have k1 : wr.cell? ⟨gp, q, none⟩ = some (.int .i64 (bs q : Nat)) := by rw [k1]; simp
                  have f1 := hPR3.fp q
                  have hP4 := hPR3.setP q ((bs q : Nat) + 1)
                  have f2 := hP4.fr q
                  have k2 := hP4.cr q (by omega)
                  have hbq := HB3.out q (by omega)
                  have HNew : RowKit.Hid (PR w0 gp gr m (fun i => (bs i : Int) + if marks rm m (c + 1) i = true then 1 else 0) (restI rm m (c + 1)) ((wr.setCell ⟨gp, q, none⟩ (.int .i64 ((bs q : Nat) + 1))).setCell ⟨gr, q, none⟩ (.int .i64 (-1)))) := by
                    refine ((hPR3.setP q ((bs q : Nat) + 1)).setR q (-1)).congr (fun i hi => ?_) (fun i hi => ?_)
                    · rw [hst i hi]
                      by_cases he : i = q
                      · subst he
                        simp
                      · rw [if_neg he, show (i == q) = false by simp; omega, Bool.or_false]
                    · unfold restI
                      rw [hst i hi]
                      by_cases he : i = q
                      · subst he
                        simp
                      · rw [if_neg he, show (i == q) = false by simp; omega, Bool.or_false]
                  clear hM hst hPR3 hP4 HBest hmn
                  generalize bs q = x at *
                  generalize restI rm m c q = y at *
                  have e1 : ((L - c : Nat) : Int) - 1 = ((L - (c + 1) : Nat) : Int) := by omega
                  go_wp2
                  go_roundw
                  case rel => exact ⟨c + 1, by omega, by rw [← e1], HNew.out⟩
                  case measure => simp [intOf]; omega
            · obtain rfl : c = L := by omega
              have t3 : decide ((0 : Int) < ((c - c : Nat) : Int)) = false := by simp
              have hfin : IL (.slice (some ⟨gp, 0, none⟩) j cp) sl wr := by
                rw [HSh.out]
                refine IL_of_PR hPR hcp _ (by simp) (fun i hi => ?_)
                rw [List.getElem_map, List.getElem_range, HSR2.out i]
                split <;> simp
              have hbel := hPR.bel
              rw [Nat.sub_self]
              clear hPR
              go_wp2
              go_ret2
              exact ⟨_, rfl, hfin, hbel⟩
end Go.Proofs.YtbemenflkebpnaaDoor
