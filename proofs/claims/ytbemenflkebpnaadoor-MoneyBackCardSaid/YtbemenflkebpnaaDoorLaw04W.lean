/- The statement MoneyWhole of layer 4 over this translation: it returns true. -/
import Derived.Test.YtbemenflkebpnaaDoorLaw04
import Derived.BigQuiet
import Derived.Lib.SliceRun
namespace Go.Proofs.YtbemenflkebpnaaDoor
open Go.RowKit Go.PlainAid

theorem below_drewN {B : Nat} {a w : World} (h : Below B a w) (n : Nat) : Below B a (w.drewN n) := ⟨h.os, h.tape, h.output, h.size, h.block⟩

set_option maxHeartbeats 8000000 in
theorem lawWhole_out (t : Int) (v : Value) (l : List Int) (w : World) (hT : Tab w) (hv : IL v l w) (hz : l.length ≤ 9223372036854775807) (h : ¬ (l.length ≤ 40 ∧ okS t l = true)) :
    Calls Tryd.prog 6 #[.int .i64 t, v] w fun e w' => e = .returned (.bool true) ∧ Below w.heap.size w w' := by
  have c0 := Lib.hid (fun W (hW : Below w.heap.size w W) => alive_any W (hT.on hW))
  have HV := Lib.hid (fun W (hW : Below w.heap.size w W) => hv.after hW)
  obtain ⟨a, cap, rfl, hc, _⟩ := hv
  have b0 := Below.refl w.heap.size w
  by_cases h40 : 40 < l.length
  · have d1 : decide ((40 : Int) < (l.length : Int)) = true := by simp; omega
    clear h
    generalize l.length = n at *
    go_enter Tryd.func6, Tryd.ntmps6
    go_wp2_with fail
    refine (c0.out _ (by assumption)).mono ?_
    rintro e w1 ⟨rfl, b1⟩
    go_wp2
    go_ret
    exact ⟨rfl, b1⟩
  · have d1 : decide ((40 : Int) < (l.length : Int)) = false := by simp; omega
    have hno : okS t l = false := by
      cases hk : okS t l
      · rfl
      · exact absurd ⟨by omega, hk⟩ h
    have c1 := Lib.hid (fun v W (hW : Below w.heap.size w W) (hv : IL v l W) => pShare t v l (by omega) W hv)
    rw [show shareE t l = 1 by unfold shareE; rw [hno]; rfl, show shareR t l = [] by unfold shareR; rw [hno]; rfl] at c1
    obtain ⟨n, hn⟩ : ∃ n, l.length = n := ⟨_, rfl⟩
    rw [hn] at hc h40 d1 HV hz ⊢
    clear hn h hno
    go_enter Tryd.func6, Tryd.ntmps6
    go_wp2_with fail
    refine (c0.out _ (by assumption)).mono ?_
    rintro e w1 ⟨rfl, b1⟩
    clear b0
    go_wp2_with fail
    refine (c1.out _ _ (by assumption) (HV.out _ (by assumption))).mono ?_
    rintro e w2 ⟨v1, rfl, hv1, c⟩
    have b2 := b1.trans (c.mono b1.size)
    clear c b1
    obtain ⟨a1, p1, rfl, _, _⟩ := hv1
    have heq : ∀ W, (binOp .eql 29 (.slice a1 0 p1) (.slice none 0 0)).run Tryd.prog W = .ok (.bool a1.isNone) W := fun W => Lib.run_eql_slice_nil W _ _ a1 0 p1 0 0 Tryd.underlying29
    obtain ⟨bb, hbb⟩ : ∃ bb, a1.isNone = bb := ⟨_, rfl⟩
    rw [hbb] at heq
    clear hbb
    cases bb
    all_goals
      go_wp2
      go_ret
      exact ⟨rfl, b2⟩

set_option maxHeartbeats 32000000 in
set_option maxRecDepth 100000 in
theorem lawWhole_in (t : Nat) (v : Value) (l : List Int) (w : World) (hT : Tab w) (hv : IL v l w) (hok : okS (t : Int) l = true) :
    Calls Tryd.prog 6 #[.int .i64 (t : Int), v] w fun e w' => e = .returned (.bool true) ∧ Below w.heap.size w w' := by
  have c0 := Lib.hid (fun W (hW : Below w.heap.size w W) => alive_any W (hT.on hW))
  have HV := Lib.hid (fun W (hW : Below w.heap.size w W) => hv.after hW)
  obtain ⟨hrt, h1, h16, hg, hs⟩ := (okS_iff (t : Int) l).1 hok
  have ht := ((rightI_iff (t : Int)).1 hrt).2
  have c1 := Lib.hid (fun v W (hW : Below w.heap.size w W) (hv : IL v l W) => pShare (t : Int) v l (by omega) W hv)
  rw [show shareE (t : Int) l = 0 by unfold shareE; rw [hok]; rfl, show shareR (t : Int) l = shareL (t : Int) l by unfold shareR; rw [hok]; rfl] at c1
  obtain ⟨a, cap, rfl, hc, _⟩ := hv
  have hs0 : 0 < sumN (wN l) l.length := Nat.pos_of_ne_zero hs
  obtain ⟨n, hn⟩ : ∃ n, l.length = n := ⟨_, rfl⟩
  have hwe : ∀ i, i < n → l[i]? = some ((wN l i : Nat) : Int) ∧ wN l i ≤ 1000 := by
    intro i hi
    have hil : i < l.length := by omega
    have := okW_at l i hil (hg i hil)
    rw [List.getElem?_eq_getElem hil, this.1]
    exact ⟨rfl, this.2⟩
  have hpe : ∀ i, i < n → (shareL (t : Int) l)[i]? = some ((share t n (wN l) i : Nat) : Int) := by
    intro i hi
    unfold shareL
    rw [hn, List.getElem?_map, List.getElem?_range hi, Int.toNat_natCast]
    rfl
  have hpl : (shareL (t : Int) l).length = n := by rw [shareL_length, hn]
  rw [hn] at hc h1 h16 hs0 HV ⊢
  have HWE := Lib.hid hwe
  have HPE := Lib.hid hpe
  have HPL := Lib.hid hpl
  have HSum := Lib.hid (fun k (hk : k ≤ n) => sumW_le l k fun i hi => (hwe i (by omega)).2)
  have HAll := Lib.hid (share_sum t n (wN l) hs0)
  have HNear := Lib.hid (fun i (hi : i < n) => share_near t n (wN l) hs0 i hi)
  have HZero := Lib.hid (fun i (hi : i < n) => share_zero t n (wN l) hs0 i hi)
  have HMono := Lib.hid (fun i k (hi : i < n) (hk : k < n) => share_mono t n (wN l) hs0 i k hi hk)
  have htn : t ≤ 100000000 := by omega
  have HLe : RowKit.Hid (∀ i, i < n → share t n (wN l) i ≤ 100000000) := by
    intro i hi
    have h2 := sumN_at (f := share t n (wN l)) n i hi
    rw [share_sum t n (wN l) hs0] at h2
    omega
  have HAllLe : RowKit.Hid (∀ k, k ≤ n → sumN (share t n (wN l)) k ≤ t) := by
    intro k hk
    have h2 := sumN_mono (share t n (wN l)) k n hk
    rwa [share_sum t n (wN l) hs0] at h2
  obtain ⟨s, hS⟩ : ∃ s, sumN (wN l) n = s := ⟨_, rfl⟩
  have HS := Lib.hid hS
  rw [hS] at HNear hs0
  clear hwe hpe hpl hn hrt hg hs hok hS ht
  generalize shareL (t : Int) l = sl at *
  generalize share t n (wN l) = P at *
  generalize wN l = wf at *
  have hs16 : s ≤ 16000 := by have := HSum.out n (Nat.le_refl _); rw [HS.out] at this; omega
  have d1 : decide ((40 : Int) < (n : Int)) = false := by simp; omega
  have b0 := Below.refl w.heap.size w
  go_enter Tryd.func6, Tryd.ntmps6
  go_wp2_with fail
  refine (c0.out _ (by assumption)).mono ?_
  rintro e w1 ⟨rfl, b1⟩
  clear b0
  go_wp2_with fail
  refine (c1.out _ _ (by assumption) (HV.out _ (by assumption))).mono ?_
  rintro e w2 ⟨v1, rfl, hv1, c⟩
  have b2 := b1.trans (c.mono b1.size)
  have hvW := HV.out _ b2
  clear c b1 c0 c1 HV
  obtain ⟨a1, cap1, rfl, hc1, hcp⟩ := hv1
  obtain ⟨a2, cap2, he2, hc2, hcw⟩ := hvW
  rw [HPL.out] at hc1 ⊢
  have he3 : a2 = a := by
    have := he2
    simp only [Value.slice.injEq] at this
    exact this.1.symm
  subst he3
  clear he2 hc2
  have HW2 : RowKit.Hid (∀ i, i < n → ∃ g o, a2 = some ⟨g, o, none⟩ ∧ g < w2.heap.size ∧ w2.cell? ⟨g, o + i, none⟩ = some (.int .i64 (wf i : Nat)) ∧ wf i ≤ 1000) := by
    intro i hi
    obtain ⟨g, o, ha, hgl, hk⟩ := hcw i _ (HWE.out i hi).1
    exact ⟨g, o, ha, hgl, hk, (HWE.out i hi).2⟩
  have HP2 : RowKit.Hid (∀ i, i < n → ∃ g o, a1 = some ⟨g, o, none⟩ ∧ g < w2.heap.size ∧ w2.cell? ⟨g, o + i, none⟩ = some (.int .i64 (P i : Nat)) ∧ P i ≤ 100000000) := by
    intro i hi
    obtain ⟨g, o, ha, hgl, hk⟩ := hcp i _ (HPE.out i hi)
    exact ⟨g, o, ha, hgl, hk, HLe.out i hi⟩
  clear hcw hcp HWE HPE HLe HPL
  have t0 : ((n : Int) != (n : Int)) = false := by simp
  go_wp2
  go_loopw [7, 8, 9] (fun su al i wr => ∃ k : Nat, k ≤ n ∧ i = .int .i64 (k : Int) ∧ su = .int .i64 ((sumN wf k : Nat) : Int) ∧ al = .int .i64 ((sumN P k : Nat) : Int) ∧ wr = w2) (fun _ _ i _ => n - (intOf i).toNat)
  case atStart => exact ⟨0, Nat.zero_le _, rfl, rfl, rfl, rfl⟩
  case round =>
    obtain ⟨k, hk, rfl, rfl, rfl, rfl⟩ := hrel
    by_cases hkn : k < n
    · obtain ⟨g, o, rfl, hg, k1, hx⟩ := HW2.out k hkn
      obtain ⟨g2, o2, rfl, hg2, k2, hy⟩ := HP2.out k hkn
      have i1 : (0 : Int) ≤ (k : Int) := by omega
      have i2 : (k : Int) < (n : Int) := by omega
      have HX : RowKit.Hid (sumN wf (k + 1) = sumN wf k + wf k) := rfl
      have HY : RowKit.Hid (sumN P (k + 1) = sumN P k + P k) := rfl
      have hsb : sumN wf k ≤ 16000 := by have := HSum.out k hk; omega
      have hsp : sumN P k ≤ 100000000 := by have := HAllLe.out k hk; omega
      generalize sumN wf k = sx at *
      generalize sumN P k = sy at *
      generalize wf k = x at *
      generalize P k = y at *
      go_wp2
      go_roundw
      case rel => exact ⟨k + 1, by omega, by go_num, by rw [HX.out]; go_num, by rw [HY.out]; go_num, trivial⟩
      case measure => simp [intOf]; omega
    · obtain rfl : k = n := by omega
      rw [HS.out, HAll.out]
      obtain ⟨w0, rfl⟩ : ∃ w0 : World, w0 = wr := ⟨_, rfl⟩
      have hb0 := Below.refl w0.heap.size w0
      clear hkn hk HSum HAll HAllLe
      go_wp2
      go_loopw [10] (fun i wr => ∃ m : Nat, m ≤ k ∧ i = .int .i64 (m : Int) ∧ Below w0.heap.size w0 wr) (fun i _ => k - (intOf i).toNat)
      case atStart => exact ⟨0, Nat.zero_le _, rfl, hb0⟩
      case round =>
        obtain ⟨m, hm, rfl, hbw⟩ := hrel
        clear hb0
        by_cases hmn : m < k
        · obtain ⟨g, o, rfl, hg, k1, hx⟩ := HW2.out m hmn
          obtain ⟨g2, o2, rfl, hg2, k2, hy⟩ := HP2.out m hmn
          have k1 : wr.cell? ⟨g, o + m, none⟩ = some (.int .i64 (wf m : Nat)) := (hbw.cell (p := ⟨g, o + m, none⟩) hg).trans k1
          have k2 : wr.cell? ⟨g2, o2 + m, none⟩ = some (.int .i64 (P m : Nat)) := (hbw.cell (p := ⟨g2, o2 + m, none⟩) hg2).trans k2
          have hN := HNear.out m hmn
          have hZ := HZero.out m hmn
          have hps : P m * s ≤ 1600000000000 := Nat.mul_le_mul hy hs16
          have htw : t * wf m ≤ 100000000000 := Nat.mul_le_mul htn hx
          have e1 : ((P m : Nat) : Int) * (s : Int) = ((P m * s : Nat) : Int) := (Int.natCast_mul _ _).symm
          have e2 : (t : Int) * ((wf m : Nat) : Int) = ((t * wf m : Nat) : Int) := (Int.natCast_mul _ _).symm
          have HMm := Lib.hid (fun q (hq : q < k) => HMono.out m q hmn hq)
          obtain ⟨F, hF⟩ : ∃ F : Int, ((P m * s : Nat) : Int) - ((t * wf m : Nat) : Int) = F := ⟨_, rfl⟩
          have hF1 : F < (s : Int) := by omega
          have hF2 : -(s : Int) < F := by omega
          generalize P m * s = ps at *
          generalize t * wf m = tw at *
          have i1 : (0 : Int) ≤ (m : Int) := by omega
          have i2 : (m : Int) < (k : Int) := by omega
          have e3 : IntKind.i64.wrap (ps : Int) = (ps : Int) := by rw [IntKind.wrap_i64]; omega
          have e4 : IntKind.i64.wrap (tw : Int) = (tw : Int) := by rw [IntKind.wrap_i64]; omega
          have e5 : IntKind.i64.wrap F = F := by rw [IntKind.wrap_i64]; omega
          have t1 : decide ((s : Int) ≤ F) = false := decide_eq_false (by omega)
          have t2 : decide (F ≤ -(s : Int)) = false := decide_eq_false (by omega)
          have k1d : wr.drew.cell? ⟨g, o + m, none⟩ = some (.int .i64 (wf m : Nat)) := k1
          have HW3 := Lib.hid (below_drewN hbw)
          have t3 : (((wf m : Nat) : Int) == 0) = false ∨ (((wf m : Nat) : Int) == 0) = true ∧ (((P m : Nat) : Int) != 0) = false := by
            by_cases h0 : wf m = 0
            · refine .inr ⟨by rw [h0]; rfl, ?_⟩
              rw [hZ h0]
              rfl
            · exact .inl (by simp; omega)
          clear hbw k1d hZ hN
          rcases t3 with t3 | ⟨t3, t4⟩
          all_goals
            go_wp2_with fail
            go_quiet (fail)
            go_wp2
            go_loopw [12] (fun i wr => ∃ q : Nat, q ≤ k ∧ i = .int .i64 (q : Int) ∧ Below w0.heap.size w0 wr) (fun i _ => k - (intOf i).toNat)
            case atStart => exact ⟨0, Nat.zero_le _, rfl, HW3.out _⟩
            case round =>
              obtain ⟨q, hq, rfl, hbq⟩ := hrel
              by_cases hqn : q < k
              · obtain ⟨g3, o3, hg3, hgs3, k3, _⟩ := HW2.out q hqn
                obtain ⟨g4, o4, hg4, hgs4, k4, _⟩ := HP2.out q hqn
                obtain ⟨g5, o5, hg5, _, k5, _⟩ := HW2.out m hmn
                obtain ⟨g6, o6, hg6, _, k6, _⟩ := HP2.out m hmn
                simp only [Option.some.injEq, Addr.mk.injEq, and_true] at hg3 hg4 hg5 hg6
                obtain ⟨rfl, rfl⟩ := hg3
                obtain ⟨rfl, rfl⟩ := hg4
                obtain ⟨rfl, rfl⟩ := hg5
                obtain ⟨rfl, rfl⟩ := hg6
                have k3 := (hbq.cell (p := ⟨g, o + q, none⟩) hgs3).trans k3
                have k4 := (hbq.cell (p := ⟨g2, o2 + q, none⟩) hgs4).trans k4
                have k5 := (hbq.cell (p := ⟨g, o + m, none⟩) hgs3).trans k5
                have k6 := (hbq.cell (p := ⟨g2, o2 + m, none⟩) hgs4).trans k6
                have hM := HMm.out q hqn
                have i3 : (0 : Int) ≤ (q : Int) := by omega
                have i4 : (q : Int) < (k : Int) := by omega
                have HBQ := Lib.hid (below_drewN hbq)
                clear hbq k1 k2
                by_cases hgt : wf m < wf q
                · have t5 : decide (((wf m : Nat) : Int) < ((wf q : Nat) : Int)) = true := decide_eq_true (by omega)
                  have t6 : decide (((P q : Nat) : Int) < ((P m : Nat) : Int)) = false := decide_eq_false (by have := hM hgt; omega)
                  clear hM hgt
                  generalize ((wf q : Nat) : Int) = x1 at *
                  generalize ((wf m : Nat) : Int) = x2 at *
                  generalize ((P q : Nat) : Int) = x3 at *
                  generalize ((P m : Nat) : Int) = x4 at *
                  go_wp2_with fail
                  go_quiet (fail)
                  go_wp2
                  go_roundw
                  case rel => exact ⟨q + 1, by omega, by go_num, HBQ.out _⟩
                  case measure => simp [intOf]; omega
                · have t5 : decide (((wf m : Nat) : Int) < ((wf q : Nat) : Int)) = false := decide_eq_false (by omega)
                  clear hM hgt
                  generalize ((wf q : Nat) : Int) = x1 at *
                  generalize ((wf m : Nat) : Int) = x2 at *
                  generalize ((P q : Nat) : Int) = x3 at *
                  generalize ((P m : Nat) : Int) = x4 at *
                  go_wp2_with fail
                  go_quiet (fail)
                  go_wp2
                  go_roundw
                  case rel => exact ⟨q + 1, by omega, by go_num, HBQ.out _⟩
                  case measure => simp [intOf]; omega
              · have hbq2 := Lib.hid hbq
                obtain rfl : q = k := by omega
                clear hbq
                go_wp2
                go_roundw
                case rel => exact ⟨m + 1, by omega, by go_num, hbq2.out⟩
                case measure => simp [intOf]; omega
        · obtain rfl : m = k := by omega
          have b3 := b2.trans (hbw.mono b2.size)
          clear hbw
          go_wp2
          go_ret
          exact ⟨rfl, b3⟩

theorem lawWhole_any (t : Int) (v : Value) (l : List Int) (w : World) (hT : Tab w) (hv : IL v l w) (hz : l.length ≤ 9223372036854775807) :
    Calls Tryd.prog 6 #[.int .i64 t, v] w fun e w' => e = .returned (.bool true) ∧ Below w.heap.size w w' := by
  by_cases h : l.length ≤ 40 ∧ okS t l = true
  · have h2 := (rightI_iff t).1 ((okS_iff t l).1 h.2).1
    obtain ⟨a, rfl⟩ : ∃ a : Nat, t = (a : Int) := ⟨t.toNat, by omega⟩
    exact lawWhole_in a v l w hT hv h.2
  · exact lawWhole_out t v l w hT hv hz h
end Go.Proofs.YtbemenflkebpnaaDoor
