/- Merged: RQ15. -/
import Derived.Test.YtfjfpefpdlecbaaGreatDoorQ44
import Derived.Test.YtfjfpefpdlecbaaGreatDoorQ47
import Derived.Test.YtfjfpefpdlecbaaGreatDoorQ15
import Derived.Test.YtfjfpefpdlecbaaGreatDoorQ43
import Derived.BigRegion
import Derived.RegionTactic
namespace Go.Proofs.YtfjfpefpdlecbaaGreatDoor

section
open Go.RowKit Go.PlainAid
def PN15 (N : Nat) (v : Value) (L : List (Int × Int)) (w : World) : Prop := rowE N 59 2 v L.length (cellsPr L) w
theorem PN15.after {N : Nat} {v : Value} {L : List (Int × Int)} {w w' : World} (h : PN15 N v L w) (hb : Below w.heap.size w w') : PN15 N v L w' := rowE.after h hb
theorem PN15.pl {N : Nat} {v : Value} {L : List (Int × Int)} {w : World} (h : PN15 N v L w) : PL v L w := PRw.pl (B := N) h.1
theorem PN15.empty (w : World) : PN15 w.heap.size (.slice (some ⟨w.heap.size, 0, none⟩) 0 0) [] (w.alloc (.cells #[] 59)) :=
  ⟨⟨by simp [cellsPr], .inr ⟨w.heap.size, 0, #[], rfl, Nat.le_refl _, heap_alloc_new w _, Nat.le_refl _, Nat.zero_le _, by simp, by simp [cellsPr]⟩⟩, fun e => by cases e⟩
set_option maxHeartbeats 64000000 in
set_option maxRecDepth 100000 in
theorem refPairs_any (m : MRule) (mv : Value) (l : List Rec) (u : Value) (w : World) (hm : KL mv m.keys w) (hM : okM m) (hu : RL u l w) (ho : ∀ x ∈ l, okR x) (hz : l.length ≤ 8) :
    Calls Tryz.prog 27 #[MV m mv, u] w fun e w' => ∃ v, e = .returned v ∧ PL v (pairsM m l) w' ∧ Below w.heap.size w w' := by
  obtain ⟨Q, hQ⟩ : ∃ Q, (fun (e : Ending) (w' : World) => ∃ v, e = .returned v ∧ PL v (pairsM m l) w' ∧ Below w.heap.size w w') = Q := ⟨_, rfl⟩
  rw [hQ]
  have HQ : RowKit.Hid (∀ v W, PL v (pairsM m l) W → Below w.heap.size w W → Q (.returned v) W) := by
    rw [← hQ]
    exact fun v W h1 h2 => ⟨v, rfl, h1, h2⟩
  obtain ⟨mx, mc, hmv, -, -⟩ : ∃ a cap, mv = .slice a m.keys.length cap ∧ m.keys.length ≤ cap ∧ cap ≤ maxLen := by
    obtain ⟨a, cap, h1, h2, h3, _⟩ := hm
    exact ⟨a, cap, h1, h2, h3⟩
  obtain ⟨al, cl, gl, ol, us, huu, hcl, hcm, hga, hxa⟩ := hu.open15
  obtain ⟨W0, hW0⟩ : ∃ W0, w.alloc (.cells #[mv, .int .i64 m.need] 24) = W0 := ⟨_, rfl⟩
  have b0 : Below w.heap.size w W0 := by rw [← hW0]; exact (Below.refl w.heap.size w).alloc (Nat.le_refl _) _
  have hsz0 : W0.heap.size = w.heap.size + 1 := by rw [← hW0]; simp
  have hM0 : W0.heap[w.heap.size]? = some (.cells #[mv, .int .i64 m.need] 24 (0, 0)) := by rw [← hW0]; exact heap_alloc_new w _
  have HMx := Lib.hid (fun (W : World) (h : Below W0.heap.size W0 W) => (h.block w.heap.size (by omega)).trans hM0)
  have HBw := Lib.hid (fun (W : World) (h : Below W0.heap.size W0 W) => b0.trans (h.mono b0.size))
  have HX := Lib.hid (fun (W : World) (h : Below W0.heap.size W0 W) => hxa W (HBw.out W h))
  have cS := Lib.hid (fun (x y : Rec) (hx : x ∈ l) (hy : y ∈ l) (ux uy : Value) (W : World) (h : Below W0.heap.size W0 W) (hf : FL ux x.fields W) (hg : FL uy y.fields W) => refScore_any m mv x y ux uy W (hm.after (HBw.out W h)) hM hf hg (ho x hx) (ho y hy))
  have HMem := Lib.hid (fun i (h : i < l.length) => show l.getD i rec0 ∈ l by
    rw [List.getD_eq_getElem?_getD, List.getElem?_eq_getElem h]
    exact List.getElem_mem h)
  have HSs := Lib.hid (fun i j (h : j < l.length) => tp_step m l i j h)
  have HSl := Lib.hid (fun i j (hi : i ≤ l.length) (hj : j ≤ l.length) => tp_len m l hz i j hi hj)
  have HSz := Lib.hid (tp_zero m l)
  have HSn := Lib.hid (fun i (h : i < l.length) => tp_next m l i h)
  have HSe := Lib.hid (tp_end m l)
  have HE1 := Lib.hid (PN15.empty W0)
  have HBE := Lib.hid ((Below.refl W0.heap.size W0).alloc (Nat.le_refl _) (.cells #[] 59))
  have HW0 := Lib.hid hW0
  unfold maxLen at hcm
  unfold MV RV at *
  subst hmv huu
  clear hQ hm hu ho hW0 hM0 b0 hsz0 hM hxa
  generalize m.keys.length = mn at *
  generalize hnd2 : m.need = need at *
  clear hnd2
  obtain ⟨n, hn⟩ : ∃ n, l.length = n := ⟨_, rfl⟩
  rw [hn] at hz hcl hga HX HMem HSs HSl HSn HSe ⊢
  clear hn
  go_enter Tryz.func27, Tryz.ntmps27
  go_upto_region 1 with fail
  rw [HW0.out]
  clear HW0
  go_wp2
  go_loopw [5, 6, 7, 8, 9, 10] (fun s5 s6 _ _ _ _ wr => ∃ i : Nat, s6 = .int .i64 (i : Int) ∧ i ≤ n ∧ RowKit.Hid (PN15 W0.heap.size s5 (tpM m l i 0) wr) ∧ RowKit.Hid (Below W0.heap.size W0 wr)) (fun _ s6 _ _ _ _ _ => n - (intOf s6).toNat)
  case atStart => exact ⟨0, rfl, Nat.zero_le _, by rw [HSz.out]; exact HE1.out, HBE.out⟩
  case round =>
    obtain ⟨i, rfl, hi, HP0, HB0⟩ := hrel
    clear HE1 HBE
    by_cases hin : i < n
    · have i1 : (0 : Int) ≤ (i : Int) := by omega
      have i2 : (i : Int) < (n : Int) := by omega
      obtain rfl := hga (by omega)
      obtain ⟨A, hAd⟩ : ∃ X, l.getD i rec0 = X := ⟨_, rfl⟩
      have ham := HMem.out i hin
      have hac := fun (W : World) (h : Below W0.heap.size W0 W) => HX.out W h i hin
      have hst := fun j (h : j < n) => HSs.out i j h
      rw [hAd] at ham hac hst
      obtain ⟨aa, ac, hua, -, -⟩ := (hac wr HB0.out).2.length
      rw [hua] at hac
      have HAm := Lib.hid ham
      have HAc := Lib.hid hac
      have HSt := Lib.hid hst
      have HSnx := Lib.hid (HSn.out i hin)
      have HSli := Lib.hid (fun j (h : j ≤ n) => HSl.out i j hi h)
      clear ham hac hst hAd hua
      have hn8 : i ≤ 8 := by omega
      go_wp2
      go_loopw [5, 7, 8, 9, 10] (fun s5 s7 _ _ _ wr => ∃ j : Nat, s7 = .int .i64 (j : Int) ∧ j ≤ n ∧ RowKit.Hid (PN15 W0.heap.size s5 (tpM m l i j) wr) ∧ RowKit.Hid (Below W0.heap.size W0 wr)) (fun _ s7 _ _ _ _ => n - (intOf s7).toNat)
      case atStart => exact ⟨0, rfl, Nat.zero_le _, HP0.out, HB0.out⟩
      case round =>
        obtain ⟨j, rfl, hj, HP, HB⟩ := hrel
        clear HP0 HB0
        obtain ⟨w5, hw5⟩ : ∃ wq, wr = wq := ⟨_, rfl⟩
        rw [hw5] at HP HB ⊢
        clear hw5
        by_cases hjn : j < n
        · have j1 : (0 : Int) ≤ (j : Int) := by omega
          have j2 : (j : Int) < (n : Int) := by omega
          obtain ⟨B, hBd⟩ : ∃ X, l.getD j rec0 = X := ⟨_, rfl⟩
          have hbm := HMem.out j hjn
          have hbc := fun (W : World) (h : Below W0.heap.size W0 W) => HX.out W h j hjn
          have hst := HSt.out j hjn
          rw [hBd] at hbm hbc hst
          obtain ⟨ba, bc, hub, -, -⟩ := (hbc w5 HB.out).2.length
          rw [hub] at hbc
          have hsc1 := fun (W : World) (h : Below W0.heap.size W0 W) => cS.out A B HAm.out hbm _ _ W h (HAc.out W h).2 (hbc W h).2
          obtain ⟨sc, hsc⟩ : ∃ x, scoreM m A B = x := ⟨_, rfl⟩
          rw [hsc] at hst hsc1
          obtain ⟨S0, hS0⟩ : ∃ x, tpM m l i j = x := ⟨_, rfl⟩
          have hsl := HSli.out j hj
          rw [hS0] at hst HP hsl
          have hac1 := fun (W : World) (h : Below W0.heap.size W0 W) => (HAc.out W h).1
          have hbc1 := fun (W : World) (h : Below W0.heap.size W0 W) => (hbc W h).1
          clear hbm hbc hsc hS0 hBd hub HAc HSt HAm HSnx
          generalize A.fields.length = an at *
          generalize A.id = aid at *
          generalize A.ver = aver at *
          generalize A.kind = akind at *
          generalize S A.lang = alg at *
          generalize B.fields.length = bn at *
          generalize B.id = bid at *
          generalize B.ver = bver at *
          generalize B.kind = bkind at *
          generalize S B.lang = blg at *
          obtain ⟨np, hnp⟩ : ∃ x, S0.length = x := ⟨_, rfl⟩
          have hP0 := HP.out
          unfold PN15 at hP0
          rw [hnp] at hP0
          obtain ⟨gp, cp, h7, hcp, hcpm, hgp, hgpl, hPc⟩ := rowE_opened hP0
          subst h7
          unfold maxLen at hcpm
          rw [hnp] at hsl
          have HStep := Lib.hid hst
          have HNs := Lib.hid hnp
          have HPx := Lib.hid hPc
          have HSc1 := Lib.hid hsc1
          have HAc1 := Lib.hid hac1
          have HBc1 := Lib.hid hbc1
          obtain ⟨a0, -, -, -, -⟩ := hac1 w5 HB.out
          obtain ⟨b0, -, -, -, -⟩ := hbc1 w5 HB.out
          have HDr : RowKit.Hid (∀ d, Below w5.heap.size w5 (w5.drewN d)) := fun d => below_drewN16 w5 d
          clear hP0 hPc hst hnp hsc1 hac1 hbc1
          go_upto_region 8 with fail
          go_quiet (fail)
          generalize hwy : w5.drewN _ = wy
          have hy : Below w5.heap.size w5 wy := by rw [← hwy]; exact HDr.out _
          clear hwy HDr a0 b0
          have HBy := Lib.hid (HB.out.trans (hy.mono HB.out.size))
          have HPy := Lib.hid (HP.out.after hy)
          have HPz := Lib.hid (fun (W : World) (h : Below wy.heap.size wy W) => HPx.out W (hy.trans (h.mono hy.size)))
          clear hy HB HP HPx
          by_cases hge : bid ≤ aid
          · have hd1 : decide (bid ≤ aid) = true := decide_eq_true hge
            have hS1 : tpM m l i (j + 1) = S0 := by rw [HStep.out, if_neg (fun h => by have := h.1; omega)]
            have HS1 := Lib.hid hS1
            have HDy : RowKit.Hid (∀ d, Below wy.heap.size wy (wy.drewN d)) := fun d => below_drewN16 wy d
            clear hS1 HStep hge
            go_upto_region 9 with fail
            go_quiet (fail)
            go_wp2
            go_roundw
            case rel => exact ⟨j + 1, by go_num, by omega, by rw [HS1.out]; exact HPy.out.after (HDy.out _), HBy.out.trans ((HDy.out _).mono HBy.out.size)⟩
            case measure => simp [intOf]; omega
          have hd1 : decide (bid ≤ aid) = false := decide_eq_false hge
          obtain ⟨nn, hnn⟩ : ∃ b, decide (sc < need) = b := ⟨_, rfl⟩
          have HNN := Lib.hid hnn
          have hS1 : tpM m l i (j + 1) = if nn = true then S0 else insO ltP S0 (aid, bid) := by
            rw [HStep.out]
            by_cases h : sc < need
            · rw [if_neg (fun g => by have := g.2; omega), if_pos (by rw [← hnn]; exact decide_eq_true h)]
            · rw [if_pos ⟨by omega, by omega⟩, if_neg (by rw [← hnn, decide_eq_false h]; decide)]
          have HS1 := Lib.hid hS1
          have HMq := Lib.hid (fun (W : World) (h : Below wy.heap.size wy W) => HMx.out W (HBy.out.trans (h.mono HBy.out.size)))
          have HAq := Lib.hid (fun (W : World) (h : Below wy.heap.size wy W) => HAc1.out W (HBy.out.trans (h.mono HBy.out.size)))
          have HBq := Lib.hid (fun (W : World) (h : Below wy.heap.size wy W) => HBc1.out W (HBy.out.trans (h.mono HBy.out.size)))
          have cS1 := Lib.hid (fun (W : World) (h : Below wy.heap.size wy W) => HSc1.out W (HBy.out.trans (h.mono HBy.out.size)))
          clear hS1 HStep hge hnn HAc1 HBc1 HSc1
          go_upto_region 9 with fail
          apply wp_region_inv (V := [.eq (.int .i64 aid), .eq (.int .i64 bid), .eq (.bool false), .eq (.bool false), .eq (.agg #[.slice mx mn mc, .int .i64 need]), .eq (.slice (some ⟨gl, ol, none⟩) n cl), .eq (.int .i64 (i : Int)), .eq (.pointer (some ⟨gl, ol + i * 5, none⟩)), .eq (.agg #[.int .i64 aid, .int .i64 aver, .int .i64 akind, .string alg, .slice aa an ac]), .eq (.slice (some ⟨gl, ol, none⟩) n cl), .eq (.int .i64 (j : Int)), .eq (.pointer (some ⟨gl, ol + j * 5, none⟩)), .eq (.agg #[.int .i64 bid, .int .i64 bver, .int .i64 bkind, .string blg, .slice ba bn bc]), .eq (.int .i64 sc), .eq (.pointer (some ⟨w.heap.size, 1, none⟩)), .eq (.int .i64 need), .eq (.bool nn), .eq (.bool nn)])
          case hm => kernel_rfl
          case hd => kernel_rfl
          case hb => kernel_rfl
          case hA =>
            intro vs
            simp only [puts, Act.put, List.setIfInBounds_toArray, List.set_cons_zero, List.set_cons_succ]
            exact rfl
          case hob =>
            refine Obs.cons _ _ _ _ _ _ ?o0 (Obs.cons _ _ _ _ _ _ ?o1 (Obs.cons _ _ _ _ _ _ ?o2 (Obs.cons _ _ _ _ _ _ ?o3 (Obs.cons _ _ _ _ _ _ ?o4 (Obs.cons _ _ _ _ _ _ ?o5 (Obs.cons _ _ _ _ _ _ ?o6 (Obs.cons _ _ _ _ _ _ ?o7 (Obs.cons _ _ _ _ _ _ ?o8 (Obs.cons _ _ _ _ _ _ ?o9 (Obs.cons _ _ _ _ _ _ ?o10 (Obs.cons _ _ _ _ _ _ ?o11 (Obs.cons _ _ _ _ _ _ ?o12 (Obs.cons _ _ _ _ _ _ ?o13 (Obs.cons _ _ _ _ _ _ ?o14 (Obs.cons _ _ _ _ _ _ ?o15 (Obs.cons _ _ _ _ _ _ ?o16 (Obs.cons _ _ _ _ _ _ ?o17 (Obs.nil _ _ _ _ _ _))))))))))))))))))
            case o0 =>
              intro vs W hw hd K hK
              go_simp
              exact hK.out _ _ rfl (Below.refl _ _)
            case o1 =>
              intro vs W hw hd K hK
              go_simp
              exact hK.out _ _ rfl (Below.refl _ _)
            case o2 =>
              intro vs W hw hd K hK
              have h0 : vs 0 = .int .i64 aid := hd 0 (by kernel_rfl)
              have h1 : vs 1 = .int .i64 bid := hd 1 (by kernel_rfl)
              simp only [Nat.reduceAdd, h0, h1] at hK ⊢
              go_simp
              exact hK.out _ _ rfl (Below.refl _ _)
            case o3 =>
              intro vs W hw hd K hK
              have h2 : vs 2 = .bool false := hd 2 (by kernel_rfl)
              simp only [Nat.reduceAdd, h2] at hK ⊢
              go_simp
              exact hK.out _ _ rfl (Below.refl _ _)
            case o4 =>
              intro vs W hw hd K hK
              have h3 : vs 3 = .bool false := hd 3 (by kernel_rfl)
              obtain ⟨m0, m1⟩ := mcells2 (HMq.out W hw)
              simp only [Nat.reduceAdd, h3] at hK ⊢
              go_simp
              exact hK.out _ _ rfl (Below.refl _ _)
            case o5 =>
              intro vs W hw hd K hK
              have h3 : vs 3 = .bool false := hd 3 (by kernel_rfl)
              simp only [Nat.reduceAdd, h3] at hK ⊢
              go_simp
              exact hK.out _ _ rfl (Below.refl _ _)
            case o6 =>
              intro vs W hw hd K hK
              have h3 : vs 3 = .bool false := hd 3 (by kernel_rfl)
              simp only [Nat.reduceAdd, h3] at hK ⊢
              go_simp
              exact hK.out _ _ rfl (Below.refl _ _)
            case o7 =>
              intro vs W hw hd K hK
              have h3 : vs 3 = .bool false := hd 3 (by kernel_rfl)
              have h5 : vs 5 = .slice (some ⟨gl, ol, none⟩) n cl := hd 5 (by kernel_rfl)
              have h6 : vs 6 = .int .i64 (i : Int) := hd 6 (by kernel_rfl)
              simp only [Nat.reduceAdd, h3, h5, h6] at hK ⊢
              go_simp
              exact hK.out _ _ rfl (Below.refl _ _)
            case o8 =>
              intro vs W hw hd K hK
              have h3 : vs 3 = .bool false := hd 3 (by kernel_rfl)
              have h7 : vs 7 = .pointer (some ⟨gl, ol + i * 5, none⟩) := hd 7 (by kernel_rfl)
              obtain ⟨a0, a1, a2, a3, a4⟩ := HAq.out W hw
              simp only [Nat.reduceAdd, h3, h7] at hK ⊢
              go_simp
              exact hK.out _ _ rfl (Below.refl _ _)
            case o9 =>
              intro vs W hw hd K hK
              have h3 : vs 3 = .bool false := hd 3 (by kernel_rfl)
              simp only [Nat.reduceAdd, h3] at hK ⊢
              go_simp
              exact hK.out _ _ rfl (Below.refl _ _)
            case o10 =>
              intro vs W hw hd K hK
              have h3 : vs 3 = .bool false := hd 3 (by kernel_rfl)
              simp only [Nat.reduceAdd, h3] at hK ⊢
              go_simp
              exact hK.out _ _ rfl (Below.refl _ _)
            case o11 =>
              intro vs W hw hd K hK
              have h3 : vs 3 = .bool false := hd 3 (by kernel_rfl)
              have h9 : vs 9 = .slice (some ⟨gl, ol, none⟩) n cl := hd 9 (by kernel_rfl)
              have h10 : vs 10 = .int .i64 (j : Int) := hd 10 (by kernel_rfl)
              simp only [Nat.reduceAdd, h3, h9, h10] at hK ⊢
              go_simp
              exact hK.out _ _ rfl (Below.refl _ _)
            case o12 =>
              intro vs W hw hd K hK
              have h3 : vs 3 = .bool false := hd 3 (by kernel_rfl)
              have h11 : vs 11 = .pointer (some ⟨gl, ol + j * 5, none⟩) := hd 11 (by kernel_rfl)
              obtain ⟨b0, b1, b2, b3, b4⟩ := HBq.out W hw
              simp only [Nat.reduceAdd, h3, h11] at hK ⊢
              go_simp
              exact hK.out _ _ rfl (Below.refl _ _)
            case o13 =>
              intro vs W hw hd K hK
              have h3 : vs 3 = .bool false := hd 3 (by kernel_rfl)
              have h4 : vs 4 = .agg #[.slice mx mn mc, .int .i64 need] := hd 4 (by kernel_rfl)
              have h8 : vs 8 = .agg #[.int .i64 aid, .int .i64 aver, .int .i64 akind, .string alg, .slice aa an ac] := hd 8 (by kernel_rfl)
              have h12 : vs 12 = .agg #[.int .i64 bid, .int .i64 bver, .int .i64 bkind, .string blg, .slice ba bn bc] := hd 12 (by kernel_rfl)
              simp only [Nat.reduceAdd, h3, h4, h8, h12] at hK ⊢
              go_simp
              refine (cS1.out W hw).mono ?_
              rintro e W' ⟨rfl, hb'⟩
              exact hK.out _ _ rfl hb'
            case o14 =>
              intro vs W hw hd K hK
              have h3 : vs 3 = .bool false := hd 3 (by kernel_rfl)
              simp only [Nat.reduceAdd, h3] at hK ⊢
              go_simp
              exact hK.out _ _ rfl (Below.refl _ _)
            case o15 =>
              intro vs W hw hd K hK
              have h3 : vs 3 = .bool false := hd 3 (by kernel_rfl)
              have h14 : vs 14 = .pointer (some ⟨w.heap.size, 1, none⟩) := hd 14 (by kernel_rfl)
              obtain ⟨m0, m1⟩ := mcells2 (HMq.out W hw)
              simp only [Nat.reduceAdd, h3, h14] at hK ⊢
              go_simp
              exact hK.out _ _ rfl (Below.refl _ _)
            case o16 =>
              intro vs W hw hd K hK
              have h3 : vs 3 = .bool false := hd 3 (by kernel_rfl)
              have h13 : vs 13 = .int .i64 sc := hd 13 (by kernel_rfl)
              have h15 : vs 15 = .int .i64 need := hd 15 (by kernel_rfl)
              have hq := HNN.out
              simp only [Nat.reduceAdd, h3, h13, h15] at hK ⊢
              go_simp
              exact hK.out _ _ rfl (Below.refl _ _)
            case o17 =>
              intro vs W hw hd K hK
              have h3 : vs 3 = .bool false := hd 3 (by kernel_rfl)
              have h16 : vs 16 = .bool nn := hd 16 (by kernel_rfl)
              simp only [Nat.reduceAdd, h3, h16] at hK ⊢
              go_simp
              exact hK.out _ _ rfl (Below.refl _ _)
          case hfin =>
            intro vs wq hw hd
            have h17 : vs 17 = .bool nn := hd 17 (by decide)
            simp only [Nat.reduceAdd, h17]
            have HB2 := Lib.hid (HBy.out.trans (hw.mono HBy.out.size))
            have HPr := Lib.hid (HPy.out.after hw)
            have HPc := Lib.hid (fun (W : World) (h : Below wq.heap.size wq W) => HPz.out W (hw.trans (h.mono hw.size)))
            clear hd h17 hw HBy HPy HPz HMq HAq HBq cS1 HNN hd1
            cases nn with
            | true =>
              have hs2 := HS1.out
              rw [if_pos rfl] at hs2
              have HS2 := Lib.hid hs2
              clear hs2 HS1
              go_wp2
              go_roundw
              case rel => exact ⟨j + 1, by go_num, by omega, by rw [HS2.out]; exact HPr.out, HB2.out⟩
              case measure => simp [intOf]; omega
            | false =>
            have hs2 := HS1.out
            rw [if_neg (by decide)] at hs2
            have HS2 := Lib.hid hs2
            clear hs2 HS1
            go_wp2
            obtain ⟨CP, hCP⟩ : ∃ x, cellsPr S0 = x := ⟨_, rfl⟩
            have HCPl : RowKit.Hid (CP.length = np * 2) := by rw [← hCP, cellsPr_len15, HNs.out]; exact rfl
            have HoP : RowKit.Hid (∀ u ∈ CP, u.oneCell' = true) := by rw [← hCP]; exact cellsPr_one15 S0
            have HgP : RowKit.Hid (∀ (j : Nat) (y : Int × Int), S0[j]? = some y → CP[j * 2]? = some (Value.int .i64 y.1) ∧ CP[j * 2 + 1]? = some (Value.int .i64 y.2)) := fun j y h => by rw [← hCP]; exact cellsPr_at15 S0 j y h
            have HPP : RowKit.Hid (∀ k, plcO ltP S0 (aid, bid) = k → (CP.take (k * 2) ++ [Value.int .i64 aid, Value.int .i64 bid]) ++ CP.drop (k * 2) = cellsPr (insO ltP S0 (aid, bid))) := fun k h => by rw [← hCP]; exact ins_cells15 h
            have HPlc : RowKit.Hid (∀ k, k ≤ np → (∀ j, j < k → ∃ y, S0[j]? = some y ∧ ltP y (aid, bid) = true) → (∀ y, S0[k]? = some y → ltP y (aid, bid) = false) → plcO ltP S0 (aid, bid) = k) := fun k hk h1 h2 => by
              rw [place_at ltP (aid, bid) S0 k h1 h2, HNs.out]
              omega
            rw [hCP] at HPc
            have HR2 := Lib.hid (Below.refl wq.heap.size wq)
            clear hCP
            go_loopw [10] (fun s10 wr => ∃ k : Nat, s10 = .int .i64 (k : Int) ∧ k ≤ np ∧ RowKit.Hid (∀ j, j < k → ∃ y, S0[j]? = some y ∧ ltP y (aid, bid) = true) ∧ RowKit.Hid (Below wq.heap.size wq wr)) (fun s10 _ => np - (intOf s10).toNat)
            case atStart => exact ⟨0, rfl, Nat.zero_le _, (fun j hj => by omega), HR2.out⟩
            case round =>
              obtain ⟨k, rfl, hk, HJ, HBr⟩ := hrel
              obtain ⟨wz, hwz⟩ : ∃ x, wr = x := ⟨_, rfl⟩
              rw [hwz] at HBr ⊢
              clear hwz HR2
              have k1 : (0 : Int) ≤ (k : Int) := by omega
              by_cases hkn : k < np
              · have k2 : (k : Int) < (np : Int) := by omega
                have kc1 : k ≤ cp := by omega
                have kc2 : ¬ cp = k := by omega
                obtain ⟨⟨p1, p2⟩, HK⟩ : ∃ y, RowKit.Hid (S0[k]? = some y) := ⟨S0.getD k (0, 0), by
                  unfold RowKit.Hid
                  rw [List.getD_eq_getElem?_getD, List.getElem?_eq_getElem (by rw [HNs.out]; exact hkn)]
                  rfl⟩
                obtain ⟨g1, g2⟩ := HgP.out k _ HK.out
                have hk1 := HPc.out wz HBr.out _ _ g1
                have hk2 := HPc.out wz HBr.out _ _ g2
                (try dsimp only at hk1 hk2)
                clear g1 g2
                have HJ2 : RowKit.Hid (ltP (p1, p2) (aid, bid) = true → ∀ j, j < k + 1 → ∃ y, S0[j]? = some y ∧ ltP y (aid, bid) = true) := fun h j hj => by
                  rcases Nat.lt_or_ge j k with hj2 | hj2
                  · exact HJ.out j hj2
                  · rw [show j = k by omega]; exact ⟨_, HK.out, h⟩
                have HP2 : RowKit.Hid (ltP (p1, p2) (aid, bid) = false → plcO ltP S0 (aid, bid) = k) := fun h => HPlc.out k hk HJ.out (fun y hy => by rw [HK.out] at hy; rw [← Option.some.inj hy]; exact h)
                by_cases hgt : p1 < aid
                · have t3 : decide (p1 < aid) = true := decide_eq_true hgt
                  have HJ3 := Lib.hid (HJ2.out (by rw [ltP_iff]; exact .inl hgt))
                  clear hgt HJ2 HP2 HJ HK HPlc
                  go_wp2
                  go_roundw
                  case rel => exact ⟨k + 1, by go_num, by omega, HJ3.out, HBr.out⟩
                  case measure => simp [intOf]; omega
                have t3 : decide (p1 < aid) = false := decide_eq_false hgt
                by_cases heq : p1 = aid
                · have t4 : (p1 == aid) = true := by simpa using heq
                  by_cases hlt : p2 < bid
                  · have t5 : decide (p2 < bid) = true := decide_eq_true hlt
                    have HJ3 := Lib.hid (HJ2.out (by rw [ltP_iff]; exact .inr ⟨heq, hlt⟩))
                    clear hgt heq hlt HJ2 HP2 HJ HK HPlc
                    go_wp2
                    go_roundw
                    case rel => exact ⟨k + 1, by go_num, by omega, HJ3.out, HBr.out⟩
                    case measure => simp [intOf]; omega
                  have t5 : decide (p2 < bid) = false := decide_eq_false hlt
                  have hnl : ltP (p1, p2) (aid, bid) = false := by
                    have : ¬ (ltP (p1, p2) (aid, bid) = true) := by rw [ltP_iff]; rintro (h | ⟨-, h⟩) <;> omega
                    simpa using this
                  have HIi := Lib.hid (HPP.out k (HP2.out hnl))
                  clear hgt heq hlt HJ2 HP2 HJ HK HPlc hnl HPP HgP
                  go_upto_region 13 with fail
                  clear hk1 hk2 t3 t4 t5
                  have HBz := Lib.hid (HB2.out.trans (HBr.out.mono HB2.out.size))
                  have HNz := Lib.hid HBz.out.size
                  have HlA : RowKit.Hid ((CP.take (k * 2)).length = k * 2) := by have := HCPl.out; unfold RowKit.Hid; rw [List.length_take]; omega
                  have HlB : RowKit.Hid ((CP.drop (k * 2)).length = (np - k) * 2) := by have := HCPl.out; unfold RowKit.Hid; rw [List.length_drop]; omega
                  have HIl : RowKit.Hid (k + 1 + (np - k) = (insO ltP S0 (aid, bid)).length) := by have := HNs.out; unfold RowKit.Hid; rw [insO_len]; omega
                  have HcA := Lib.hid (fun (W : World) (h : Below wz.heap.size wz W) (j : Nat) (u : Value) (hu : (CP.take (k * 2))[j]? = some u) => show W.cell? ((⟨gp, 0, none⟩ : Addr).add j) = some u from by
                    rw [add_zero15, Nat.zero_add]
                    exact HPc.out W (HBr.out.trans (h.mono HBr.out.size)) j u (src_take15 hu))
                  have HcB := Lib.hid (fun (W : World) (h : Below wz.heap.size wz W) (j : Nat) (u : Value) (hu : (CP.drop (k * 2))[j]? = some u) => show W.cell? ((⟨gp, k * 2, none⟩ : Addr).add j) = some u from by
                    rw [add_zero15]
                    exact HPc.out W (HBr.out.trans (h.mono HBr.out.size)) (k * 2 + j) u (src_drop15 hu))
                  apply wp_region_ime (imp := fun i => decide (i ∈ [0, 4, 8, 9, 13])) (X := fun d vs W => Ch 0 4 8 9 13 wz.heap.size wz 59 2 k (np - k) (CP.take (k * 2)) [.int .i64 aid, .int .i64 bid] (CP.drop (k * 2)) d vs W) (V := [(fun _ => True), (fun v => v = .slice (some ⟨gp, 0, none⟩) np cp), (fun v => v = .int .i64 (k : Int)), (fun v => v = .slice (some ⟨gp, 0, none⟩) k cp), (fun _ => True), (fun v => v = .int .i64 aid), (fun v => v = .int .i64 bid), (fun v => v = .agg #[.int .i64 aid, .int .i64 bid]), (fun _ => True), (fun _ => True), (fun v => v = .slice (some ⟨gp, 0, none⟩) np cp), (fun v => v = .int .i64 (k : Int)), (fun v => v = .slice (some ⟨gp, k * 2, none⟩) (np - k) (cp - k)), (fun _ => True)]) (n := 14) (f := 2)
                  case hX0 => exact fun vs => Ch.init (Below.refl _ _).drew (Nat.le_refl _) vs
                  case hXst => exact fun d vs u w h hb => h.below hb
                  case hXo =>
                    intro d vs w i v hi h
                    have hi := of_decide_eq_false hi
                    simp only [List.mem_cons, List.not_mem_nil, or_false, not_or] at hi
                    exact h.other i v (Ne.symm hi.1) (Ne.symm hi.2.1) (Ne.symm hi.2.2.1) (Ne.symm hi.2.2.2.1) (Ne.symm hi.2.2.2.2)
                  case hm => kernel_rfl
                  case hd => kernel_rfl
                  case hb => kernel_rfl
                  case hA =>
                    intro vs
                    simp only [List.take_succ_cons, List.take_zero, puts, Act.put, List.setIfInBounds_toArray, List.set_cons_zero, List.set_cons_succ]
                    exact rfl
                  case hlast => kernel_rfl
                  case hol => exact rfl
                  case hob =>
                    refine ObsI.cons _ _ _ _ _ _ _ ?o0 (ObsI.cons _ _ _ _ _ _ _ ?o1 (ObsI.cons _ _ _ _ _ _ _ ?o2 (ObsI.cons _ _ _ _ _ _ _ ?o3 (ObsI.cons _ _ _ _ _ _ _ ?o4 (ObsI.cons _ _ _ _ _ _ _ ?o5 (ObsI.cons _ _ _ _ _ _ _ ?o6 (ObsI.cons _ _ _ _ _ _ _ ?o7 (ObsI.cons _ _ _ _ _ _ _ ?o8 (ObsI.cons _ _ _ _ _ _ _ ?o9 (ObsI.cons _ _ _ _ _ _ _ ?o10 (ObsI.cons _ _ _ _ _ _ _ ?o11 (ObsI.cons _ _ _ _ _ _ _ ?o12 (ObsI.cons _ _ _ _ _ _ _ ?o13 (ObsI.nil _ _ _ _ _ _ _))))))))))))))
                    case o0 =>
                      intro d vs W hdk hdep hcl hv hX K hK
                      go_simp
                      exact hK.out _ _ (fun _ => hX.s0 (by decide)) (fun h => absurd h (by decide))
                    case o1 =>
                      intro d vs W hdk hdep hcl hv hX K hK
                      go_simp
                      exact hK.out _ _ (fun h => absurd h (by decide)) (fun _ => ⟨rfl, Below.refl _ _⟩)
                    case o2 =>
                      intro d vs W hdk hdep hcl hv hX K hK
                      go_simp
                      exact hK.out _ _ (fun h => absurd h (by decide)) (fun _ => ⟨rfl, Below.refl _ _⟩)
                    case o3 =>
                      intro d vs W hdk hdep hcl hv hX K hK
                      have h1 : vs 1 = .slice (some ⟨gp, 0, none⟩) np cp := hv 1 (by kernel_rfl) (by decide)
                      have h2 : vs 2 = .int .i64 (k : Int) := hv 2 (by kernel_rfl) (by decide)
                      simp only [Nat.reduceAdd, h1, h2] at hK ⊢
                      go_simp
                      exact hK.out _ _ (fun h => absurd h (by decide)) (fun _ => ⟨rfl, Below.refl _ _⟩)
                    case o4 =>
                      intro d vs W hdk hdep hcl hv hX K hK
                      have hn3 : d 9 = false := by
                        cases hq : d 9 with
                        | false => rfl
                        | true => exact absurd (hcl 9 _ 4 rfl (by kernel_rfl) hq) (by rw [hdk]; decide)
                      have hn4 : d 13 = false := by
                        cases hq : d 13 with
                        | false => rfl
                        | true => exact absurd (hcl 13 _ 9 rfl (by kernel_rfl) hq) (by rw [hn3]; decide)
                      have h3 : vs 3 = .slice (some ⟨gp, 0, none⟩) k cp := hv 3 (by kernel_rfl) (by decide)
                      have hr0 := hX.c0 (hdep 0 (by kernel_rfl)) hdk
                      obtain ⟨v', w', hr, hown, hnn, hg, hat⟩ := runP15 hr0 hX.size 50 ⟨gp, 0, none⟩ k cp (CP.take (k * 2)) HlA.out (fun j u hu => HcA.out W hX.low j u hu) (one_take15 HoP.out) (by omega)
                      rw [Nat.zero_add, List.nil_append] at hown
                      apply step_append_run15 (d := .tmp 85) (s := .tmp 88) (t1 := 50) (t2 := 50) (u := vs 0) (x := .slice (some ⟨gp, 0, none⟩) k cp) (v := v') (w' := w')
                      case hgd => rfl
                      case ho => rfl
                      case hd => simp [Act.eval]
                      case hs => simp [Act.eval, h3]
                      case hrun => exact hr
                      case h => exact hK.out _ _ (fun _ => hX.s1 (by decide) (hdep 0 (by kernel_rfl)) hdk hn3 hn4 hown hnn hg hat) (fun h => absurd h (by decide))
                    case o5 =>
                      intro d vs W hdk hdep hcl hv hX K hK
                      go_simp
                      exact hK.out _ _ (fun h => absurd h (by decide)) (fun _ => ⟨rfl, Below.refl _ _⟩)
                    case o6 =>
                      intro d vs W hdk hdep hcl hv hX K hK
                      go_simp
                      exact hK.out _ _ (fun h => absurd h (by decide)) (fun _ => ⟨rfl, Below.refl _ _⟩)
                    case o7 =>
                      intro d vs W hdk hdep hcl hv hX K hK
                      have h5 : vs 5 = .int .i64 aid := hv 5 (by kernel_rfl) (by decide)
                      have h6 : vs 6 = .int .i64 bid := hv 6 (by kernel_rfl) (by decide)
                      simp only [Nat.reduceAdd, h5, h6] at hK ⊢
                      go_simp
                      exact hK.out _ _ (fun h => absurd h (by decide)) (fun _ => ⟨rfl, Below.refl _ _⟩)
                    case o8 =>
                      intro d vs W hdk hdep hcl hv hX K hK
                      have hn3 : d 9 = false := by
                        cases hq : d 9 with
                        | false => rfl
                        | true => exact absurd (hcl 9 _ 8 rfl (by kernel_rfl) hq) (by rw [hdk]; decide)
                      have hn4 : d 13 = false := by
                        cases hq : d 13 with
                        | false => rfl
                        | true => exact absurd (hcl 13 _ 9 rfl (by kernel_rfl) hq) (by rw [hn3]; decide)
                      have h7 : vs 7 = .agg #[.int .i64 aid, .int .i64 bid] := hv 7 (by kernel_rfl) (by decide)
                      simp only [Nat.reduceAdd, h7] at hK ⊢
                      go_simp
                      exact hK.out _ _ (fun _ => hX.s2 (by decide) hn3 hn4) (fun h => absurd h (by decide))
                    case o9 =>
                      intro d vs W hdk hdep hcl hv hX K hK
                      have hn4 : d 13 = false := by
                        cases hq : d 13 with
                        | false => rfl
                        | true => exact absurd (hcl 13 _ 9 rfl (by kernel_rfl) hq) (by rw [hdk]; decide)
                      have hr0 := hX.c1 (hdep 4 (by kernel_rfl)) hdk
                      obtain ⟨b, hx, hb, -, -⟩ := hX.c2 (hdep 8 (by kernel_rfl)) hdk
                      obtain ⟨v', w', hr, hown, hnn, hg, -⟩ := runP15 hr0 hX.size 50 ⟨b, 0, none⟩ 1 1 [.int .i64 aid, .int .i64 bid] rfl (fun j u hu => by rw [add_zero15, Nat.zero_add, Lib.cell_of_heap hb]; simpa using hu) (by intro u hu; simp at hu; rcases hu with rfl | rfl <;> rfl) (by omega)
                      apply step_append_run15 (d := .tmp 89) (s := .tmp 93) (t1 := 50) (t2 := 50) (u := vs 4) (x := .slice (some ⟨b, 0, none⟩) 1 1) (v := v') (w' := w')
                      case hgd => rfl
                      case ho => rfl
                      case hd => simp [Act.eval]
                      case hs => simp [Act.eval, hx]
                      case hrun => exact hr
                      case h => exact hK.out _ _ (fun _ => hX.s3 (by decide) (hdep 4 (by kernel_rfl)) hdk hn4 hown hnn hg) (fun h => absurd h (by decide))
                    case o10 =>
                      intro d vs W hdk hdep hcl hv hX K hK
                      go_simp
                      exact hK.out _ _ (fun h => absurd h (by decide)) (fun _ => ⟨rfl, Below.refl _ _⟩)
                    case o11 =>
                      intro d vs W hdk hdep hcl hv hX K hK
                      go_simp
                      exact hK.out _ _ (fun h => absurd h (by decide)) (fun _ => ⟨rfl, Below.refl _ _⟩)
                    case o12 =>
                      intro d vs W hdk hdep hcl hv hX K hK
                      have h10 : vs 10 = .slice (some ⟨gp, 0, none⟩) np cp := hv 10 (by kernel_rfl) (by decide)
                      have h11 : vs 11 = .int .i64 (k : Int) := hv 11 (by kernel_rfl) (by decide)
                      simp only [Nat.reduceAdd, h10, h11] at hK ⊢
                      go_simp
                      exact hK.out _ _ (fun h => absurd h (by decide)) (fun _ => ⟨rfl, Below.refl _ _⟩)
                    case o13 =>
                      intro d vs W hdk hdep hcl hv hX K hK
                      have h12 : vs 12 = .slice (some ⟨gp, k * 2, none⟩) (np - k) (cp - k) := hv 12 (by kernel_rfl) (by decide)
                      have hd1 : d 4 = true := hcl 9 _ 4 rfl (by kernel_rfl) (hdep 9 (by kernel_rfl))
                      have hr0 := hX.c3 (hdep 9 (by kernel_rfl)) hdk
                      obtain ⟨v', w', hr, hown, hnn, hg, -⟩ := runP15 hr0 hX.size 50 ⟨gp, k * 2, none⟩ (np - k) (cp - k) (CP.drop (k * 2)) HlB.out (fun j u hu => HcB.out W hX.low j u hu) (one_drop15 HoP.out) (by omega)
                      apply step_append_run15 (d := .tmp 94) (s := .tmp 97) (t1 := 50) (t2 := 50) (u := vs 9) (x := .slice (some ⟨gp, k * 2, none⟩) (np - k) (cp - k)) (v := v') (w' := w')
                      case hgd => rfl
                      case ho => rfl
                      case hd => simp [Act.eval]
                      case hs => simp [Act.eval, h12]
                      case hrun => exact hr
                      case h => exact hK.out _ _ (fun _ => hX.s4 (by decide) hd1 (hdep 9 (by kernel_rfl)) hdk hown hnn hg) (fun h => absurd h (by decide))
                  case hfin =>
                    intro d vs W hall hX hv
                    have h4 := hX.c4 (hall 13 (by decide))
                    rw [HIl.out, HIi.out] at h4
                    have HP5 : RowKit.Hid (PN15 W0.heap.size (vs 13) (insO ltP S0 (aid, bid)) W) := rowE_base h4 HNz.out
                    have HB5 := Lib.hid (HBz.out.trans (hX.low.mono HBz.out.size))
                    obtain ⟨v8, hv8⟩ : ∃ v, vs 13 = v := ⟨_, rfl⟩
                    rw [hv8] at HP5
                    simp only [Nat.reduceAdd, hv8]
                    clear h4 hX hv hv8 hall
                    go_simp
                    go_wp2
                    go_roundw
                    case rel => exact ⟨j + 1, by go_num, by omega, by rw [HS2.out]; exact HP5.out, HB5.out⟩
                    case measure => simp [intOf]; omega
                have t4 : (p1 == aid) = false := by simpa using heq
                have hnl : ltP (p1, p2) (aid, bid) = false := by
                  have : ¬ (ltP (p1, p2) (aid, bid) = true) := by rw [ltP_iff]; rintro (h | ⟨h, -⟩) <;> omega
                  simpa using this
                have HIi := Lib.hid (HPP.out k (HP2.out hnl))
                clear hgt heq HJ2 HP2 HJ HK HPlc hnl HPP HgP
                go_upto_region 13 with fail
                clear hk1 hk2 t3 t4
                have HBz := Lib.hid (HB2.out.trans (HBr.out.mono HB2.out.size))
                have HNz := Lib.hid HBz.out.size
                have HlA : RowKit.Hid ((CP.take (k * 2)).length = k * 2) := by have := HCPl.out; unfold RowKit.Hid; rw [List.length_take]; omega
                have HlB : RowKit.Hid ((CP.drop (k * 2)).length = (np - k) * 2) := by have := HCPl.out; unfold RowKit.Hid; rw [List.length_drop]; omega
                have HIl : RowKit.Hid (k + 1 + (np - k) = (insO ltP S0 (aid, bid)).length) := by have := HNs.out; unfold RowKit.Hid; rw [insO_len]; omega
                have HcA := Lib.hid (fun (W : World) (h : Below wz.heap.size wz W) (j : Nat) (u : Value) (hu : (CP.take (k * 2))[j]? = some u) => show W.cell? ((⟨gp, 0, none⟩ : Addr).add j) = some u from by
                  rw [add_zero15, Nat.zero_add]
                  exact HPc.out W (HBr.out.trans (h.mono HBr.out.size)) j u (src_take15 hu))
                have HcB := Lib.hid (fun (W : World) (h : Below wz.heap.size wz W) (j : Nat) (u : Value) (hu : (CP.drop (k * 2))[j]? = some u) => show W.cell? ((⟨gp, k * 2, none⟩ : Addr).add j) = some u from by
                  rw [add_zero15]
                  exact HPc.out W (HBr.out.trans (h.mono HBr.out.size)) (k * 2 + j) u (src_drop15 hu))
                apply wp_region_ime (imp := fun i => decide (i ∈ [0, 4, 8, 9, 13])) (X := fun d vs W => Ch 0 4 8 9 13 wz.heap.size wz 59 2 k (np - k) (CP.take (k * 2)) [.int .i64 aid, .int .i64 bid] (CP.drop (k * 2)) d vs W) (V := [(fun _ => True), (fun v => v = .slice (some ⟨gp, 0, none⟩) np cp), (fun v => v = .int .i64 (k : Int)), (fun v => v = .slice (some ⟨gp, 0, none⟩) k cp), (fun _ => True), (fun v => v = .int .i64 aid), (fun v => v = .int .i64 bid), (fun v => v = .agg #[.int .i64 aid, .int .i64 bid]), (fun _ => True), (fun _ => True), (fun v => v = .slice (some ⟨gp, 0, none⟩) np cp), (fun v => v = .int .i64 (k : Int)), (fun v => v = .slice (some ⟨gp, k * 2, none⟩) (np - k) (cp - k)), (fun _ => True)]) (n := 14) (f := 2)
                case hX0 => exact fun vs => Ch.init (Below.refl _ _).drew (Nat.le_refl _) vs
                case hXst => exact fun d vs u w h hb => h.below hb
                case hXo =>
                  intro d vs w i v hi h
                  have hi := of_decide_eq_false hi
                  simp only [List.mem_cons, List.not_mem_nil, or_false, not_or] at hi
                  exact h.other i v (Ne.symm hi.1) (Ne.symm hi.2.1) (Ne.symm hi.2.2.1) (Ne.symm hi.2.2.2.1) (Ne.symm hi.2.2.2.2)
                case hm => kernel_rfl
                case hd => kernel_rfl
                case hb => kernel_rfl
                case hA =>
                  intro vs
                  simp only [List.take_succ_cons, List.take_zero, puts, Act.put, List.setIfInBounds_toArray, List.set_cons_zero, List.set_cons_succ]
                  exact rfl
                case hlast => kernel_rfl
                case hol => exact rfl
                case hob =>
                  refine ObsI.cons _ _ _ _ _ _ _ ?o0 (ObsI.cons _ _ _ _ _ _ _ ?o1 (ObsI.cons _ _ _ _ _ _ _ ?o2 (ObsI.cons _ _ _ _ _ _ _ ?o3 (ObsI.cons _ _ _ _ _ _ _ ?o4 (ObsI.cons _ _ _ _ _ _ _ ?o5 (ObsI.cons _ _ _ _ _ _ _ ?o6 (ObsI.cons _ _ _ _ _ _ _ ?o7 (ObsI.cons _ _ _ _ _ _ _ ?o8 (ObsI.cons _ _ _ _ _ _ _ ?o9 (ObsI.cons _ _ _ _ _ _ _ ?o10 (ObsI.cons _ _ _ _ _ _ _ ?o11 (ObsI.cons _ _ _ _ _ _ _ ?o12 (ObsI.cons _ _ _ _ _ _ _ ?o13 (ObsI.nil _ _ _ _ _ _ _))))))))))))))
                  case o0 =>
                    intro d vs W hdk hdep hcl hv hX K hK
                    go_simp
                    exact hK.out _ _ (fun _ => hX.s0 (by decide)) (fun h => absurd h (by decide))
                  case o1 =>
                    intro d vs W hdk hdep hcl hv hX K hK
                    go_simp
                    exact hK.out _ _ (fun h => absurd h (by decide)) (fun _ => ⟨rfl, Below.refl _ _⟩)
                  case o2 =>
                    intro d vs W hdk hdep hcl hv hX K hK
                    go_simp
                    exact hK.out _ _ (fun h => absurd h (by decide)) (fun _ => ⟨rfl, Below.refl _ _⟩)
                  case o3 =>
                    intro d vs W hdk hdep hcl hv hX K hK
                    have h1 : vs 1 = .slice (some ⟨gp, 0, none⟩) np cp := hv 1 (by kernel_rfl) (by decide)
                    have h2 : vs 2 = .int .i64 (k : Int) := hv 2 (by kernel_rfl) (by decide)
                    simp only [Nat.reduceAdd, h1, h2] at hK ⊢
                    go_simp
                    exact hK.out _ _ (fun h => absurd h (by decide)) (fun _ => ⟨rfl, Below.refl _ _⟩)
                  case o4 =>
                    intro d vs W hdk hdep hcl hv hX K hK
                    have hn3 : d 9 = false := by
                      cases hq : d 9 with
                      | false => rfl
                      | true => exact absurd (hcl 9 _ 4 rfl (by kernel_rfl) hq) (by rw [hdk]; decide)
                    have hn4 : d 13 = false := by
                      cases hq : d 13 with
                      | false => rfl
                      | true => exact absurd (hcl 13 _ 9 rfl (by kernel_rfl) hq) (by rw [hn3]; decide)
                    have h3 : vs 3 = .slice (some ⟨gp, 0, none⟩) k cp := hv 3 (by kernel_rfl) (by decide)
                    have hr0 := hX.c0 (hdep 0 (by kernel_rfl)) hdk
                    obtain ⟨v', w', hr, hown, hnn, hg, hat⟩ := runP15 hr0 hX.size 50 ⟨gp, 0, none⟩ k cp (CP.take (k * 2)) HlA.out (fun j u hu => HcA.out W hX.low j u hu) (one_take15 HoP.out) (by omega)
                    rw [Nat.zero_add, List.nil_append] at hown
                    apply step_append_run15 (d := .tmp 85) (s := .tmp 88) (t1 := 50) (t2 := 50) (u := vs 0) (x := .slice (some ⟨gp, 0, none⟩) k cp) (v := v') (w' := w')
                    case hgd => rfl
                    case ho => rfl
                    case hd => simp [Act.eval]
                    case hs => simp [Act.eval, h3]
                    case hrun => exact hr
                    case h => exact hK.out _ _ (fun _ => hX.s1 (by decide) (hdep 0 (by kernel_rfl)) hdk hn3 hn4 hown hnn hg hat) (fun h => absurd h (by decide))
                  case o5 =>
                    intro d vs W hdk hdep hcl hv hX K hK
                    go_simp
                    exact hK.out _ _ (fun h => absurd h (by decide)) (fun _ => ⟨rfl, Below.refl _ _⟩)
                  case o6 =>
                    intro d vs W hdk hdep hcl hv hX K hK
                    go_simp
                    exact hK.out _ _ (fun h => absurd h (by decide)) (fun _ => ⟨rfl, Below.refl _ _⟩)
                  case o7 =>
                    intro d vs W hdk hdep hcl hv hX K hK
                    have h5 : vs 5 = .int .i64 aid := hv 5 (by kernel_rfl) (by decide)
                    have h6 : vs 6 = .int .i64 bid := hv 6 (by kernel_rfl) (by decide)
                    simp only [Nat.reduceAdd, h5, h6] at hK ⊢
                    go_simp
                    exact hK.out _ _ (fun h => absurd h (by decide)) (fun _ => ⟨rfl, Below.refl _ _⟩)
                  case o8 =>
                    intro d vs W hdk hdep hcl hv hX K hK
                    have hn3 : d 9 = false := by
                      cases hq : d 9 with
                      | false => rfl
                      | true => exact absurd (hcl 9 _ 8 rfl (by kernel_rfl) hq) (by rw [hdk]; decide)
                    have hn4 : d 13 = false := by
                      cases hq : d 13 with
                      | false => rfl
                      | true => exact absurd (hcl 13 _ 9 rfl (by kernel_rfl) hq) (by rw [hn3]; decide)
                    have h7 : vs 7 = .agg #[.int .i64 aid, .int .i64 bid] := hv 7 (by kernel_rfl) (by decide)
                    simp only [Nat.reduceAdd, h7] at hK ⊢
                    go_simp
                    exact hK.out _ _ (fun _ => hX.s2 (by decide) hn3 hn4) (fun h => absurd h (by decide))
                  case o9 =>
                    intro d vs W hdk hdep hcl hv hX K hK
                    have hn4 : d 13 = false := by
                      cases hq : d 13 with
                      | false => rfl
                      | true => exact absurd (hcl 13 _ 9 rfl (by kernel_rfl) hq) (by rw [hdk]; decide)
                    have hr0 := hX.c1 (hdep 4 (by kernel_rfl)) hdk
                    obtain ⟨b, hx, hb, -, -⟩ := hX.c2 (hdep 8 (by kernel_rfl)) hdk
                    obtain ⟨v', w', hr, hown, hnn, hg, -⟩ := runP15 hr0 hX.size 50 ⟨b, 0, none⟩ 1 1 [.int .i64 aid, .int .i64 bid] rfl (fun j u hu => by rw [add_zero15, Nat.zero_add, Lib.cell_of_heap hb]; simpa using hu) (by intro u hu; simp at hu; rcases hu with rfl | rfl <;> rfl) (by omega)
                    apply step_append_run15 (d := .tmp 89) (s := .tmp 93) (t1 := 50) (t2 := 50) (u := vs 4) (x := .slice (some ⟨b, 0, none⟩) 1 1) (v := v') (w' := w')
                    case hgd => rfl
                    case ho => rfl
                    case hd => simp [Act.eval]
                    case hs => simp [Act.eval, hx]
                    case hrun => exact hr
                    case h => exact hK.out _ _ (fun _ => hX.s3 (by decide) (hdep 4 (by kernel_rfl)) hdk hn4 hown hnn hg) (fun h => absurd h (by decide))
                  case o10 =>
                    intro d vs W hdk hdep hcl hv hX K hK
                    go_simp
                    exact hK.out _ _ (fun h => absurd h (by decide)) (fun _ => ⟨rfl, Below.refl _ _⟩)
                  case o11 =>
                    intro d vs W hdk hdep hcl hv hX K hK
                    go_simp
                    exact hK.out _ _ (fun h => absurd h (by decide)) (fun _ => ⟨rfl, Below.refl _ _⟩)
                  case o12 =>
                    intro d vs W hdk hdep hcl hv hX K hK
                    have h10 : vs 10 = .slice (some ⟨gp, 0, none⟩) np cp := hv 10 (by kernel_rfl) (by decide)
                    have h11 : vs 11 = .int .i64 (k : Int) := hv 11 (by kernel_rfl) (by decide)
                    simp only [Nat.reduceAdd, h10, h11] at hK ⊢
                    go_simp
                    exact hK.out _ _ (fun h => absurd h (by decide)) (fun _ => ⟨rfl, Below.refl _ _⟩)
                  case o13 =>
                    intro d vs W hdk hdep hcl hv hX K hK
                    have h12 : vs 12 = .slice (some ⟨gp, k * 2, none⟩) (np - k) (cp - k) := hv 12 (by kernel_rfl) (by decide)
                    have hd1 : d 4 = true := hcl 9 _ 4 rfl (by kernel_rfl) (hdep 9 (by kernel_rfl))
                    have hr0 := hX.c3 (hdep 9 (by kernel_rfl)) hdk
                    obtain ⟨v', w', hr, hown, hnn, hg, -⟩ := runP15 hr0 hX.size 50 ⟨gp, k * 2, none⟩ (np - k) (cp - k) (CP.drop (k * 2)) HlB.out (fun j u hu => HcB.out W hX.low j u hu) (one_drop15 HoP.out) (by omega)
                    apply step_append_run15 (d := .tmp 94) (s := .tmp 97) (t1 := 50) (t2 := 50) (u := vs 9) (x := .slice (some ⟨gp, k * 2, none⟩) (np - k) (cp - k)) (v := v') (w' := w')
                    case hgd => rfl
                    case ho => rfl
                    case hd => simp [Act.eval]
                    case hs => simp [Act.eval, h12]
                    case hrun => exact hr
                    case h => exact hK.out _ _ (fun _ => hX.s4 (by decide) hd1 (hdep 9 (by kernel_rfl)) hdk hown hnn hg) (fun h => absurd h (by decide))
                case hfin =>
                  intro d vs W hall hX hv
                  have h4 := hX.c4 (hall 13 (by decide))
                  rw [HIl.out, HIi.out] at h4
                  have HP5 : RowKit.Hid (PN15 W0.heap.size (vs 13) (insO ltP S0 (aid, bid)) W) := rowE_base h4 HNz.out
                  have HB5 := Lib.hid (HBz.out.trans (hX.low.mono HBz.out.size))
                  obtain ⟨v8, hv8⟩ : ∃ v, vs 13 = v := ⟨_, rfl⟩
                  rw [hv8] at HP5
                  simp only [Nat.reduceAdd, hv8]
                  clear h4 hX hv hv8 hall
                  go_simp
                  go_wp2
                  go_roundw
                  case rel => exact ⟨j + 1, by go_num, by omega, by rw [HS2.out]; exact HP5.out, HB5.out⟩
                  case measure => simp [intOf]; omega
              · obtain rfl : k = np := by omega
                have hP := HPlc.out k (Nat.le_refl _) HJ.out (fun y hy => by
                  have : S0[k]? = none := by rw [List.getElem?_eq_none_iff, HNs.out]; exact Nat.le_refl _
                  rw [this] at hy; cases hy)
                have HIi := Lib.hid (HPP.out k hP)
                clear HJ HPlc hP HPP HgP
                go_upto_region 13 with fail
                by_cases hck : cp = k
                · obtain rfl : k = cp := hck.symm
                  have HBz := Lib.hid (HB2.out.trans (HBr.out.mono HB2.out.size))
                  have HNz := Lib.hid HBz.out.size
                  have HlA : RowKit.Hid ((CP.take (k * 2)).length = k * 2) := by have := HCPl.out; unfold RowKit.Hid; rw [List.length_take]; omega
                  have HlB : RowKit.Hid ((CP.drop (k * 2)).length = 0 * 2) := by have := HCPl.out; unfold RowKit.Hid; rw [List.length_drop]; omega
                  have HIl : RowKit.Hid (k + 1 + 0 = (insO ltP S0 (aid, bid)).length) := by have := HNs.out; unfold RowKit.Hid; rw [insO_len]; omega
                  have HcA := Lib.hid (fun (W : World) (h : Below wz.heap.size wz W) (j : Nat) (u : Value) (hu : (CP.take (k * 2))[j]? = some u) => show W.cell? ((⟨gp, 0, none⟩ : Addr).add j) = some u from by
                    rw [add_zero15, Nat.zero_add]
                    exact HPc.out W (HBr.out.trans (h.mono HBr.out.size)) j u (src_take15 hu))
                  have HcB := Lib.hid (fun (W : World) (_ : Below wz.heap.size wz W) (j : Nat) (u : Value) (hu : (CP.drop (k * 2))[j]? = some u) => show W.cell? ((⟨gp, 0, none⟩ : Addr).add j) = some u from by
                    rw [List.drop_eq_nil_of_le (by rw [HCPl.out]; exact Nat.le_refl _)] at hu
                    simp at hu)
                  apply wp_region_ime (imp := fun i => decide (i ∈ [0, 4, 8, 9, 13])) (X := fun d vs W => Ch 0 4 8 9 13 wz.heap.size wz 59 2 k 0 (CP.take (k * 2)) [.int .i64 aid, .int .i64 bid] (CP.drop (k * 2)) d vs W) (V := [(fun _ => True), (fun v => v = .slice (some ⟨gp, 0, none⟩) k k), (fun v => v = .int .i64 (k : Int)), (fun v => v = .slice (some ⟨gp, 0, none⟩) k k), (fun _ => True), (fun v => v = .int .i64 aid), (fun v => v = .int .i64 bid), (fun v => v = .agg #[.int .i64 aid, .int .i64 bid]), (fun _ => True), (fun _ => True), (fun v => v = .slice (some ⟨gp, 0, none⟩) k k), (fun v => v = .int .i64 (k : Int)), (fun v => v = .slice (some ⟨gp, 0, none⟩) 0 0), (fun _ => True)]) (n := 14) (f := 2)
                  case hX0 => exact fun vs => Ch.init (Below.refl _ _).drew (Nat.le_refl _) vs
                  case hXst => exact fun d vs u w h hb => h.below hb
                  case hXo =>
                    intro d vs w i v hi h
                    have hi := of_decide_eq_false hi
                    simp only [List.mem_cons, List.not_mem_nil, or_false, not_or] at hi
                    exact h.other i v (Ne.symm hi.1) (Ne.symm hi.2.1) (Ne.symm hi.2.2.1) (Ne.symm hi.2.2.2.1) (Ne.symm hi.2.2.2.2)
                  case hm => kernel_rfl
                  case hd => kernel_rfl
                  case hb => kernel_rfl
                  case hA =>
                    intro vs
                    simp only [List.take_succ_cons, List.take_zero, puts, Act.put, List.setIfInBounds_toArray, List.set_cons_zero, List.set_cons_succ]
                    exact rfl
                  case hlast => kernel_rfl
                  case hol => exact rfl
                  case hob =>
                    refine ObsI.cons _ _ _ _ _ _ _ ?o0 (ObsI.cons _ _ _ _ _ _ _ ?o1 (ObsI.cons _ _ _ _ _ _ _ ?o2 (ObsI.cons _ _ _ _ _ _ _ ?o3 (ObsI.cons _ _ _ _ _ _ _ ?o4 (ObsI.cons _ _ _ _ _ _ _ ?o5 (ObsI.cons _ _ _ _ _ _ _ ?o6 (ObsI.cons _ _ _ _ _ _ _ ?o7 (ObsI.cons _ _ _ _ _ _ _ ?o8 (ObsI.cons _ _ _ _ _ _ _ ?o9 (ObsI.cons _ _ _ _ _ _ _ ?o10 (ObsI.cons _ _ _ _ _ _ _ ?o11 (ObsI.cons _ _ _ _ _ _ _ ?o12 (ObsI.cons _ _ _ _ _ _ _ ?o13 (ObsI.nil _ _ _ _ _ _ _))))))))))))))
                    case o0 =>
                      intro d vs W hdk hdep hcl hv hX K hK
                      go_simp
                      exact hK.out _ _ (fun _ => hX.s0 (by decide)) (fun h => absurd h (by decide))
                    case o1 =>
                      intro d vs W hdk hdep hcl hv hX K hK
                      go_simp
                      exact hK.out _ _ (fun h => absurd h (by decide)) (fun _ => ⟨rfl, Below.refl _ _⟩)
                    case o2 =>
                      intro d vs W hdk hdep hcl hv hX K hK
                      go_simp
                      exact hK.out _ _ (fun h => absurd h (by decide)) (fun _ => ⟨rfl, Below.refl _ _⟩)
                    case o3 =>
                      intro d vs W hdk hdep hcl hv hX K hK
                      have h1 : vs 1 = .slice (some ⟨gp, 0, none⟩) k k := hv 1 (by kernel_rfl) (by decide)
                      have h2 : vs 2 = .int .i64 (k : Int) := hv 2 (by kernel_rfl) (by decide)
                      simp only [Nat.reduceAdd, h1, h2] at hK ⊢
                      go_simp
                      exact hK.out _ _ (fun h => absurd h (by decide)) (fun _ => ⟨rfl, Below.refl _ _⟩)
                    case o4 =>
                      intro d vs W hdk hdep hcl hv hX K hK
                      have hn3 : d 9 = false := by
                        cases hq : d 9 with
                        | false => rfl
                        | true => exact absurd (hcl 9 _ 4 rfl (by kernel_rfl) hq) (by rw [hdk]; decide)
                      have hn4 : d 13 = false := by
                        cases hq : d 13 with
                        | false => rfl
                        | true => exact absurd (hcl 13 _ 9 rfl (by kernel_rfl) hq) (by rw [hn3]; decide)
                      have h3 : vs 3 = .slice (some ⟨gp, 0, none⟩) k k := hv 3 (by kernel_rfl) (by decide)
                      have hr0 := hX.c0 (hdep 0 (by kernel_rfl)) hdk
                      obtain ⟨v', w', hr, hown, hnn, hg, hat⟩ := runP15 hr0 hX.size 50 ⟨gp, 0, none⟩ k k (CP.take (k * 2)) HlA.out (fun j u hu => HcA.out W hX.low j u hu) (one_take15 HoP.out) (by omega)
                      rw [Nat.zero_add, List.nil_append] at hown
                      apply step_append_run15 (d := .tmp 85) (s := .tmp 88) (t1 := 50) (t2 := 50) (u := vs 0) (x := .slice (some ⟨gp, 0, none⟩) k k) (v := v') (w' := w')
                      case hgd => rfl
                      case ho => rfl
                      case hd => simp [Act.eval]
                      case hs => simp [Act.eval, h3]
                      case hrun => exact hr
                      case h => exact hK.out _ _ (fun _ => hX.s1 (by decide) (hdep 0 (by kernel_rfl)) hdk hn3 hn4 hown hnn hg hat) (fun h => absurd h (by decide))
                    case o5 =>
                      intro d vs W hdk hdep hcl hv hX K hK
                      go_simp
                      exact hK.out _ _ (fun h => absurd h (by decide)) (fun _ => ⟨rfl, Below.refl _ _⟩)
                    case o6 =>
                      intro d vs W hdk hdep hcl hv hX K hK
                      go_simp
                      exact hK.out _ _ (fun h => absurd h (by decide)) (fun _ => ⟨rfl, Below.refl _ _⟩)
                    case o7 =>
                      intro d vs W hdk hdep hcl hv hX K hK
                      have h5 : vs 5 = .int .i64 aid := hv 5 (by kernel_rfl) (by decide)
                      have h6 : vs 6 = .int .i64 bid := hv 6 (by kernel_rfl) (by decide)
                      simp only [Nat.reduceAdd, h5, h6] at hK ⊢
                      go_simp
                      exact hK.out _ _ (fun h => absurd h (by decide)) (fun _ => ⟨rfl, Below.refl _ _⟩)
                    case o8 =>
                      intro d vs W hdk hdep hcl hv hX K hK
                      have hn3 : d 9 = false := by
                        cases hq : d 9 with
                        | false => rfl
                        | true => exact absurd (hcl 9 _ 8 rfl (by kernel_rfl) hq) (by rw [hdk]; decide)
                      have hn4 : d 13 = false := by
                        cases hq : d 13 with
                        | false => rfl
                        | true => exact absurd (hcl 13 _ 9 rfl (by kernel_rfl) hq) (by rw [hn3]; decide)
                      have h7 : vs 7 = .agg #[.int .i64 aid, .int .i64 bid] := hv 7 (by kernel_rfl) (by decide)
                      simp only [Nat.reduceAdd, h7] at hK ⊢
                      go_simp
                      exact hK.out _ _ (fun _ => hX.s2 (by decide) hn3 hn4) (fun h => absurd h (by decide))
                    case o9 =>
                      intro d vs W hdk hdep hcl hv hX K hK
                      have hn4 : d 13 = false := by
                        cases hq : d 13 with
                        | false => rfl
                        | true => exact absurd (hcl 13 _ 9 rfl (by kernel_rfl) hq) (by rw [hdk]; decide)
                      have hr0 := hX.c1 (hdep 4 (by kernel_rfl)) hdk
                      obtain ⟨b, hx, hb, -, -⟩ := hX.c2 (hdep 8 (by kernel_rfl)) hdk
                      obtain ⟨v', w', hr, hown, hnn, hg, -⟩ := runP15 hr0 hX.size 50 ⟨b, 0, none⟩ 1 1 [.int .i64 aid, .int .i64 bid] rfl (fun j u hu => by rw [add_zero15, Nat.zero_add, Lib.cell_of_heap hb]; simpa using hu) (by intro u hu; simp at hu; rcases hu with rfl | rfl <;> rfl) (by omega)
                      apply step_append_run15 (d := .tmp 89) (s := .tmp 93) (t1 := 50) (t2 := 50) (u := vs 4) (x := .slice (some ⟨b, 0, none⟩) 1 1) (v := v') (w' := w')
                      case hgd => rfl
                      case ho => rfl
                      case hd => simp [Act.eval]
                      case hs => simp [Act.eval, hx]
                      case hrun => exact hr
                      case h => exact hK.out _ _ (fun _ => hX.s3 (by decide) (hdep 4 (by kernel_rfl)) hdk hn4 hown hnn hg) (fun h => absurd h (by decide))
                    case o10 =>
                      intro d vs W hdk hdep hcl hv hX K hK
                      go_simp
                      exact hK.out _ _ (fun h => absurd h (by decide)) (fun _ => ⟨rfl, Below.refl _ _⟩)
                    case o11 =>
                      intro d vs W hdk hdep hcl hv hX K hK
                      go_simp
                      exact hK.out _ _ (fun h => absurd h (by decide)) (fun _ => ⟨rfl, Below.refl _ _⟩)
                    case o12 =>
                      intro d vs W hdk hdep hcl hv hX K hK
                      have h10 : vs 10 = .slice (some ⟨gp, 0, none⟩) k k := hv 10 (by kernel_rfl) (by decide)
                      have h11 : vs 11 = .int .i64 (k : Int) := hv 11 (by kernel_rfl) (by decide)
                      simp only [Nat.reduceAdd, h10, h11] at hK ⊢
                      go_simp
                      exact hK.out _ _ (fun h => absurd h (by decide)) (fun _ => ⟨rfl, Below.refl _ _⟩)
                    case o13 =>
                      intro d vs W hdk hdep hcl hv hX K hK
                      have h12 : vs 12 = .slice (some ⟨gp, 0, none⟩) 0 0 := hv 12 (by kernel_rfl) (by decide)
                      have hd1 : d 4 = true := hcl 9 _ 4 rfl (by kernel_rfl) (hdep 9 (by kernel_rfl))
                      have hr0 := hX.c3 (hdep 9 (by kernel_rfl)) hdk
                      obtain ⟨v', w', hr, hown, hnn, hg, -⟩ := runP15 hr0 hX.size 50 ⟨gp, 0, none⟩ 0 0 (CP.drop (k * 2)) HlB.out (fun j u hu => HcB.out W hX.low j u hu) (one_drop15 HoP.out) (by omega)
                      apply step_append_run15 (d := .tmp 94) (s := .tmp 97) (t1 := 50) (t2 := 50) (u := vs 9) (x := .slice (some ⟨gp, 0, none⟩) 0 0) (v := v') (w' := w')
                      case hgd => rfl
                      case ho => rfl
                      case hd => simp [Act.eval]
                      case hs => simp [Act.eval, h12]
                      case hrun => exact hr
                      case h => exact hK.out _ _ (fun _ => hX.s4 (by decide) hd1 (hdep 9 (by kernel_rfl)) hdk hown hnn hg) (fun h => absurd h (by decide))
                  case hfin =>
                    intro d vs W hall hX hv
                    have h4 := hX.c4 (hall 13 (by decide))
                    rw [HIl.out, HIi.out] at h4
                    have HP5 : RowKit.Hid (PN15 W0.heap.size (vs 13) (insO ltP S0 (aid, bid)) W) := rowE_base h4 HNz.out
                    have HB5 := Lib.hid (HBz.out.trans (hX.low.mono HBz.out.size))
                    obtain ⟨v8, hv8⟩ : ∃ v, vs 13 = v := ⟨_, rfl⟩
                    rw [hv8] at HP5
                    simp only [Nat.reduceAdd, hv8]
                    clear h4 hX hv hv8 hall
                    go_simp
                    go_wp2
                    go_roundw
                    case rel => exact ⟨j + 1, by go_num, by omega, by rw [HS2.out]; exact HP5.out, HB5.out⟩
                    case measure => simp [intOf]; omega
                · skip
                  have HBz := Lib.hid (HB2.out.trans (HBr.out.mono HB2.out.size))
                  have HNz := Lib.hid HBz.out.size
                  have HlA : RowKit.Hid ((CP.take (k * 2)).length = k * 2) := by have := HCPl.out; unfold RowKit.Hid; rw [List.length_take]; omega
                  have HlB : RowKit.Hid ((CP.drop (k * 2)).length = 0 * 2) := by have := HCPl.out; unfold RowKit.Hid; rw [List.length_drop]; omega
                  have HIl : RowKit.Hid (k + 1 + 0 = (insO ltP S0 (aid, bid)).length) := by have := HNs.out; unfold RowKit.Hid; rw [insO_len]; omega
                  have HcA := Lib.hid (fun (W : World) (h : Below wz.heap.size wz W) (j : Nat) (u : Value) (hu : (CP.take (k * 2))[j]? = some u) => show W.cell? ((⟨gp, 0, none⟩ : Addr).add j) = some u from by
                    rw [add_zero15, Nat.zero_add]
                    exact HPc.out W (HBr.out.trans (h.mono HBr.out.size)) j u (src_take15 hu))
                  have HcB := Lib.hid (fun (W : World) (h : Below wz.heap.size wz W) (j : Nat) (u : Value) (hu : (CP.drop (k * 2))[j]? = some u) => show W.cell? ((⟨gp, k * 2, none⟩ : Addr).add j) = some u from by
                    rw [add_zero15]
                    exact HPc.out W (HBr.out.trans (h.mono HBr.out.size)) (k * 2 + j) u (src_drop15 hu))
                  apply wp_region_ime (imp := fun i => decide (i ∈ [0, 4, 8, 9, 13])) (X := fun d vs W => Ch 0 4 8 9 13 wz.heap.size wz 59 2 k 0 (CP.take (k * 2)) [.int .i64 aid, .int .i64 bid] (CP.drop (k * 2)) d vs W) (V := [(fun _ => True), (fun v => v = .slice (some ⟨gp, 0, none⟩) k cp), (fun v => v = .int .i64 (k : Int)), (fun v => v = .slice (some ⟨gp, 0, none⟩) k cp), (fun _ => True), (fun v => v = .int .i64 aid), (fun v => v = .int .i64 bid), (fun v => v = .agg #[.int .i64 aid, .int .i64 bid]), (fun _ => True), (fun _ => True), (fun v => v = .slice (some ⟨gp, 0, none⟩) k cp), (fun v => v = .int .i64 (k : Int)), (fun v => v = .slice (some ⟨gp, k * 2, none⟩) 0 (cp - k)), (fun _ => True)]) (n := 14) (f := 2)
                  case hX0 => exact fun vs => Ch.init (Below.refl _ _).drew (Nat.le_refl _) vs
                  case hXst => exact fun d vs u w h hb => h.below hb
                  case hXo =>
                    intro d vs w i v hi h
                    have hi := of_decide_eq_false hi
                    simp only [List.mem_cons, List.not_mem_nil, or_false, not_or] at hi
                    exact h.other i v (Ne.symm hi.1) (Ne.symm hi.2.1) (Ne.symm hi.2.2.1) (Ne.symm hi.2.2.2.1) (Ne.symm hi.2.2.2.2)
                  case hm => kernel_rfl
                  case hd => kernel_rfl
                  case hb => kernel_rfl
                  case hA =>
                    intro vs
                    simp only [List.take_succ_cons, List.take_zero, puts, Act.put, List.setIfInBounds_toArray, List.set_cons_zero, List.set_cons_succ]
                    exact rfl
                  case hlast => kernel_rfl
                  case hol => exact rfl
                  case hob =>
                    refine ObsI.cons _ _ _ _ _ _ _ ?o0 (ObsI.cons _ _ _ _ _ _ _ ?o1 (ObsI.cons _ _ _ _ _ _ _ ?o2 (ObsI.cons _ _ _ _ _ _ _ ?o3 (ObsI.cons _ _ _ _ _ _ _ ?o4 (ObsI.cons _ _ _ _ _ _ _ ?o5 (ObsI.cons _ _ _ _ _ _ _ ?o6 (ObsI.cons _ _ _ _ _ _ _ ?o7 (ObsI.cons _ _ _ _ _ _ _ ?o8 (ObsI.cons _ _ _ _ _ _ _ ?o9 (ObsI.cons _ _ _ _ _ _ _ ?o10 (ObsI.cons _ _ _ _ _ _ _ ?o11 (ObsI.cons _ _ _ _ _ _ _ ?o12 (ObsI.cons _ _ _ _ _ _ _ ?o13 (ObsI.nil _ _ _ _ _ _ _))))))))))))))
                    case o0 =>
                      intro d vs W hdk hdep hcl hv hX K hK
                      go_simp
                      exact hK.out _ _ (fun _ => hX.s0 (by decide)) (fun h => absurd h (by decide))
                    case o1 =>
                      intro d vs W hdk hdep hcl hv hX K hK
                      go_simp
                      exact hK.out _ _ (fun h => absurd h (by decide)) (fun _ => ⟨rfl, Below.refl _ _⟩)
                    case o2 =>
                      intro d vs W hdk hdep hcl hv hX K hK
                      go_simp
                      exact hK.out _ _ (fun h => absurd h (by decide)) (fun _ => ⟨rfl, Below.refl _ _⟩)
                    case o3 =>
                      intro d vs W hdk hdep hcl hv hX K hK
                      have h1 : vs 1 = .slice (some ⟨gp, 0, none⟩) k cp := hv 1 (by kernel_rfl) (by decide)
                      have h2 : vs 2 = .int .i64 (k : Int) := hv 2 (by kernel_rfl) (by decide)
                      simp only [Nat.reduceAdd, h1, h2] at hK ⊢
                      go_simp
                      exact hK.out _ _ (fun h => absurd h (by decide)) (fun _ => ⟨rfl, Below.refl _ _⟩)
                    case o4 =>
                      intro d vs W hdk hdep hcl hv hX K hK
                      have hn3 : d 9 = false := by
                        cases hq : d 9 with
                        | false => rfl
                        | true => exact absurd (hcl 9 _ 4 rfl (by kernel_rfl) hq) (by rw [hdk]; decide)
                      have hn4 : d 13 = false := by
                        cases hq : d 13 with
                        | false => rfl
                        | true => exact absurd (hcl 13 _ 9 rfl (by kernel_rfl) hq) (by rw [hn3]; decide)
                      have h3 : vs 3 = .slice (some ⟨gp, 0, none⟩) k cp := hv 3 (by kernel_rfl) (by decide)
                      have hr0 := hX.c0 (hdep 0 (by kernel_rfl)) hdk
                      obtain ⟨v', w', hr, hown, hnn, hg, hat⟩ := runP15 hr0 hX.size 50 ⟨gp, 0, none⟩ k cp (CP.take (k * 2)) HlA.out (fun j u hu => HcA.out W hX.low j u hu) (one_take15 HoP.out) (by omega)
                      rw [Nat.zero_add, List.nil_append] at hown
                      apply step_append_run15 (d := .tmp 85) (s := .tmp 88) (t1 := 50) (t2 := 50) (u := vs 0) (x := .slice (some ⟨gp, 0, none⟩) k cp) (v := v') (w' := w')
                      case hgd => rfl
                      case ho => rfl
                      case hd => simp [Act.eval]
                      case hs => simp [Act.eval, h3]
                      case hrun => exact hr
                      case h => exact hK.out _ _ (fun _ => hX.s1 (by decide) (hdep 0 (by kernel_rfl)) hdk hn3 hn4 hown hnn hg hat) (fun h => absurd h (by decide))
                    case o5 =>
                      intro d vs W hdk hdep hcl hv hX K hK
                      go_simp
                      exact hK.out _ _ (fun h => absurd h (by decide)) (fun _ => ⟨rfl, Below.refl _ _⟩)
                    case o6 =>
                      intro d vs W hdk hdep hcl hv hX K hK
                      go_simp
                      exact hK.out _ _ (fun h => absurd h (by decide)) (fun _ => ⟨rfl, Below.refl _ _⟩)
                    case o7 =>
                      intro d vs W hdk hdep hcl hv hX K hK
                      have h5 : vs 5 = .int .i64 aid := hv 5 (by kernel_rfl) (by decide)
                      have h6 : vs 6 = .int .i64 bid := hv 6 (by kernel_rfl) (by decide)
                      simp only [Nat.reduceAdd, h5, h6] at hK ⊢
                      go_simp
                      exact hK.out _ _ (fun h => absurd h (by decide)) (fun _ => ⟨rfl, Below.refl _ _⟩)
                    case o8 =>
                      intro d vs W hdk hdep hcl hv hX K hK
                      have hn3 : d 9 = false := by
                        cases hq : d 9 with
                        | false => rfl
                        | true => exact absurd (hcl 9 _ 8 rfl (by kernel_rfl) hq) (by rw [hdk]; decide)
                      have hn4 : d 13 = false := by
                        cases hq : d 13 with
                        | false => rfl
                        | true => exact absurd (hcl 13 _ 9 rfl (by kernel_rfl) hq) (by rw [hn3]; decide)
                      have h7 : vs 7 = .agg #[.int .i64 aid, .int .i64 bid] := hv 7 (by kernel_rfl) (by decide)
                      simp only [Nat.reduceAdd, h7] at hK ⊢
                      go_simp
                      exact hK.out _ _ (fun _ => hX.s2 (by decide) hn3 hn4) (fun h => absurd h (by decide))
                    case o9 =>
                      intro d vs W hdk hdep hcl hv hX K hK
                      have hn4 : d 13 = false := by
                        cases hq : d 13 with
                        | false => rfl
                        | true => exact absurd (hcl 13 _ 9 rfl (by kernel_rfl) hq) (by rw [hdk]; decide)
                      have hr0 := hX.c1 (hdep 4 (by kernel_rfl)) hdk
                      obtain ⟨b, hx, hb, -, -⟩ := hX.c2 (hdep 8 (by kernel_rfl)) hdk
                      obtain ⟨v', w', hr, hown, hnn, hg, -⟩ := runP15 hr0 hX.size 50 ⟨b, 0, none⟩ 1 1 [.int .i64 aid, .int .i64 bid] rfl (fun j u hu => by rw [add_zero15, Nat.zero_add, Lib.cell_of_heap hb]; simpa using hu) (by intro u hu; simp at hu; rcases hu with rfl | rfl <;> rfl) (by omega)
                      apply step_append_run15 (d := .tmp 89) (s := .tmp 93) (t1 := 50) (t2 := 50) (u := vs 4) (x := .slice (some ⟨b, 0, none⟩) 1 1) (v := v') (w' := w')
                      case hgd => rfl
                      case ho => rfl
                      case hd => simp [Act.eval]
                      case hs => simp [Act.eval, hx]
                      case hrun => exact hr
                      case h => exact hK.out _ _ (fun _ => hX.s3 (by decide) (hdep 4 (by kernel_rfl)) hdk hn4 hown hnn hg) (fun h => absurd h (by decide))
                    case o10 =>
                      intro d vs W hdk hdep hcl hv hX K hK
                      go_simp
                      exact hK.out _ _ (fun h => absurd h (by decide)) (fun _ => ⟨rfl, Below.refl _ _⟩)
                    case o11 =>
                      intro d vs W hdk hdep hcl hv hX K hK
                      go_simp
                      exact hK.out _ _ (fun h => absurd h (by decide)) (fun _ => ⟨rfl, Below.refl _ _⟩)
                    case o12 =>
                      intro d vs W hdk hdep hcl hv hX K hK
                      have h10 : vs 10 = .slice (some ⟨gp, 0, none⟩) k cp := hv 10 (by kernel_rfl) (by decide)
                      have h11 : vs 11 = .int .i64 (k : Int) := hv 11 (by kernel_rfl) (by decide)
                      simp only [Nat.reduceAdd, h10, h11] at hK ⊢
                      go_simp
                      exact hK.out _ _ (fun h => absurd h (by decide)) (fun _ => ⟨rfl, Below.refl _ _⟩)
                    case o13 =>
                      intro d vs W hdk hdep hcl hv hX K hK
                      have h12 : vs 12 = .slice (some ⟨gp, k * 2, none⟩) 0 (cp - k) := hv 12 (by kernel_rfl) (by decide)
                      have hd1 : d 4 = true := hcl 9 _ 4 rfl (by kernel_rfl) (hdep 9 (by kernel_rfl))
                      have hr0 := hX.c3 (hdep 9 (by kernel_rfl)) hdk
                      obtain ⟨v', w', hr, hown, hnn, hg, -⟩ := runP15 hr0 hX.size 50 ⟨gp, k * 2, none⟩ 0 (cp - k) (CP.drop (k * 2)) HlB.out (fun j u hu => HcB.out W hX.low j u hu) (one_drop15 HoP.out) (by omega)
                      apply step_append_run15 (d := .tmp 94) (s := .tmp 97) (t1 := 50) (t2 := 50) (u := vs 9) (x := .slice (some ⟨gp, k * 2, none⟩) 0 (cp - k)) (v := v') (w' := w')
                      case hgd => rfl
                      case ho => rfl
                      case hd => simp [Act.eval]
                      case hs => simp [Act.eval, h12]
                      case hrun => exact hr
                      case h => exact hK.out _ _ (fun _ => hX.s4 (by decide) hd1 (hdep 9 (by kernel_rfl)) hdk hown hnn hg) (fun h => absurd h (by decide))
                  case hfin =>
                    intro d vs W hall hX hv
                    have h4 := hX.c4 (hall 13 (by decide))
                    rw [HIl.out, HIi.out] at h4
                    have HP5 : RowKit.Hid (PN15 W0.heap.size (vs 13) (insO ltP S0 (aid, bid)) W) := rowE_base h4 HNz.out
                    have HB5 := Lib.hid (HBz.out.trans (hX.low.mono HBz.out.size))
                    obtain ⟨v8, hv8⟩ : ∃ v, vs 13 = v := ⟨_, rfl⟩
                    rw [hv8] at HP5
                    simp only [Nat.reduceAdd, hv8]
                    clear h4 hX hv hv8 hall
                    go_simp
                    go_wp2
                    go_roundw
                    case rel => exact ⟨j + 1, by go_num, by omega, by rw [HS2.out]; exact HP5.out, HB5.out⟩
                    case measure => simp [intOf]; omega
        · obtain rfl : j = n := by omega
          have hP1 := HP.out
          rw [← HSnx.out] at hP1
          have HP1 := Lib.hid hP1
          clear hP1
          go_wp2
          go_roundw
          case rel => exact ⟨i + 1, by go_num, by omega, HP1.out, HB.out⟩
          case measure => simp [intOf]; omega
    · obtain rfl : i = n := by omega
      have hF := HP0.out.pl
      rw [HSe.out] at hF
      have HF := Lib.hid (HQ.out _ _ hF (HBw.out _ HB0.out))
      clear hF
      go_wp2
      first | exact HF.out | (go_ret; exact HF.out)
end

end Go.Proofs.YtfjfpefpdlecbaaGreatDoor
