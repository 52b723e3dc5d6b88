/- Merged: LF15. -/
import Derived.Test.YtfjfpefpdlecbaaGreatDoorQ40
import Derived.Test.YtfjfpefpdlecbaaGreatDoorQ43
import Derived.Test.YtfjfpefpdlecbaaGreatDoorQ48
import Derived.Test.YtfjfpefpdlecbaaGreatDoorQ36
namespace Go.Proofs.YtfjfpefpdlecbaaGreatDoor

section
open Go.RowKit Go.PlainAid
def SP.pl15 (l : List (Int × Int)) : SP := ⟨fun v w => PL v l w, fun _ _ _ h hb => h.after hb⟩
set_option maxHeartbeats 32000000 in
set_option maxRecDepth 100000 in
theorem lawPairs15_any (m : MRule) (mv : Value) (u : Value) (l : List Rec) (w : World) (hE : Env w) (hm : KL mv m.keys w) (hu : RL u l w) :
    Calls Tryz.prog 7 #[MV m mv, u] w fun e w' => e = .returned (.bool true) ∧ Below w.heap.size w w' := by
  obtain ⟨U0, hU0⟩ : ∃ W0, w.alloc (.cells #[mv, .int .i64 m.need] 24) = W0 := ⟨_, rfl⟩
  have hu0 : U0.heap[w.heap.size]? = some (.cells #[mv, .int .i64 m.need] 24 (0, 0)) := by rw [← hU0]; exact heap_alloc_new w _
  have su0 : U0.heap.size = w.heap.size + 1 := by rw [← hU0]; simp
  have bu0 : Below w.heap.size w U0 := by rw [← hU0]; exact (Below.refl w.heap.size w).alloc (Nat.le_refl _) _
  obtain ⟨W0, hW0⟩ : ∃ W0, U0 = W0 := ⟨_, rfl⟩
  have su1 : W0.heap.size = w.heap.size + 1 := by rw [← hW0]; exact su0
  have b0 : Below w.heap.size w W0 := by rw [← hW0]; exact bu0
  have hm0 : W0.heap[w.heap.size]? = some (.cells #[mv, .int .i64 m.need] 24 (0, 0)) := by rw [← hW0]; exact hu0
  have HMx := Lib.hid (fun (W : World) (h : Below W0.heap.size W0 W) => (h.block w.heap.size (by omega)).trans hm0)
  have hWw := fun (W : World) (h : Below W0.heap.size W0 W) => b0.trans (h.mono b0.size)
  have c1 := Lib.hid (lalive15_any W0 (hE.after b0))
  have cR0 := Lib.hid (fun (W : World) (h : Below W0.heap.size W0 W) => refRight15_any m mv W (hm.after (hWw W h)))
  obtain ⟨va, hva⟩ : ∃ x, allB l = x := ⟨_, rfl⟩
  have cA0 := Lib.hid (fun (W : World) (h : Below W0.heap.size W0 W) => lall_any l u W (hu.after (hWw W h)) va hva)
  have cP0 := Lib.hid (fun (hq : rightM m = 0) (h1 : va = true) (W : World) (h : Below W0.heap.size W0 W) => pPairs_any m mv l u W (hE.after (hWw W h)) (hm.after (hWw W h)) (okM_of m hq) (okN_of m hq) (hu.after (hWw W h)) (allB_ok l (hva.trans h1)).2.1 (allB_ok l (hva.trans h1)).1 (allB_ok l (hva.trans h1)).2.2)
  have cQ0 := Lib.hid (fun (hq : rightM m = 0) (h1 : va = true) (W : World) (h : Below W0.heap.size W0 W) => refPairs_any m mv l u W (hm.after (hWw W h)) (okM_of m hq) (hu.after (hWw W h)) (allB_ok l (hva.trans h1)).2.1 (allB_ok l (hva.trans h1)).1)
  have cI0 := Lib.hid (fun (h1 : va = true) (p q : Value) (W : World) (e1 : PL p (pairsM m l) W) (e2 : PL q (pairsM m l) W) => refSamePairs_any (pairsM m l) (pairsM m l) p q W e1 e2 true (by simp))
  have HBw0 := Lib.hid hWw
  obtain ⟨ma, mc, hv⟩ : ∃ x cap, mv = .slice x m.keys.length cap := by
    obtain ⟨x, cap, h, -⟩ := hm
    exact ⟨x, cap, h⟩
  obtain ⟨al, cl, hvA, -, -⟩ := hu.length
  have hW : w.alloc (.cells #[mv, .int .i64 m.need] 24) = W0 := by rw [hU0, hW0]
  unfold MV at *
  subst hv hvA
  have HW0 := Lib.hid hW
  clear hU0 hu0 su0 bu0 hW0 su1 b0 hm0 hWw hva hm hu hE hW
  generalize m.keys.length = mn at *
  generalize hnd : m.need = need at *
  clear hnd
  generalize rightM m = rr at *
  generalize pairsM m l = FF at *
  generalize l.length = n at *
  go_enter Tryz.func7, Tryz.ntmps7
  go_upto_region 1 with fail
  rw [HW0.out]
  clear HW0
  go_wp2_with fail
  refine c1.out.mono ?_
  rintro e w1 ⟨rfl, hb1⟩
  have HMq := Lib.hid (fun (W : World) (h : Below w1.heap.size w1 W) => HMx.out W (hb1.trans (h.mono hb1.size)))
  have HBw := Lib.hid (fun (W : World) (h : Below w1.heap.size w1 W) => HBw0.out W (hb1.trans (h.mono hb1.size)))
  have cR := Lib.hid (fun (W : World) (h : Below w1.heap.size w1 W) => cR0.out W (hb1.trans (h.mono hb1.size)))
  have cA := Lib.hid (fun (W : World) (h : Below w1.heap.size w1 W) => cA0.out W (hb1.trans (h.mono hb1.size)))
  have cPx := Lib.hid (fun (hq : rr = 0) (h1 : va = true) (W : World) (h : Below w1.heap.size w1 W) => cP0.out hq h1 W (hb1.trans (h.mono hb1.size)))
  have cQx := Lib.hid (fun (hq : rr = 0) (h1 : va = true) (W : World) (h : Below w1.heap.size w1 W) => cQ0.out hq h1 W (hb1.trans (h.mono hb1.size)))
  clear hb1 c1 cR0 cA0 cP0 cQ0 HMx HBw0
  go_upto_region 3 with fail
  by_cases hr : rr = 0
  · subst hr
    cases va with
    | false =>
      clear cPx cQx cI0
      apply wp_region_inv (V := [.eq (.agg #[.slice ma mn mc, .int .i64 need]), .eq (.int .i64 0), .eq (.bool false), .eq (.bool false), .eq (.slice al n cl), .eq (.bool false), .eq (.bool true), .eq (.bool true), .eq (.bool true), .any, .any, .any, .any, .any, .any, .any, .eq (.bool true), .eq (.bool true)])
      case hm => kernel_rfl
      case hd => kernel_rfl
      case hb => kernel_rfl
      case hA =>
        intro vs
        simp only [puts, Act.put, List.setIfInBounds_toArray, List.set_cons_zero, List.set_cons_succ]
        exact rfl
      case hob =>
        refine Obs.cons _ _ _ _ _ _ ?o0 (Obs.cons _ _ _ _ _ _ ?o1 (Obs.cons _ _ _ _ _ _ ?o2 (Obs.cons _ _ _ _ _ _ ?o3 (Obs.cons _ _ _ _ _ _ ?o4 (Obs.cons _ _ _ _ _ _ ?o5 (Obs.cons _ _ _ _ _ _ ?o6 (Obs.cons _ _ _ _ _ _ ?o7 (Obs.cons _ _ _ _ _ _ ?o8 (Obs.cons _ _ _ _ _ _ ?o9 (Obs.cons _ _ _ _ _ _ ?o10 (Obs.cons _ _ _ _ _ _ ?o11 (Obs.cons _ _ _ _ _ _ ?o12 (Obs.cons _ _ _ _ _ _ ?o13 (Obs.cons _ _ _ _ _ _ ?o14 (Obs.cons _ _ _ _ _ _ ?o15 (Obs.cons _ _ _ _ _ _ ?o16 (Obs.cons _ _ _ _ _ _ ?o17 (Obs.nil _ _ _ _ _ _))))))))))))))))))
        case o0 =>
          intro vs W hw hd K hK
          obtain ⟨m0, m1⟩ := mcells2 (HMq.out W hw)
          go_simp
          exact hK.out _ _ rfl (Below.refl _ _)
        case o1 =>
          intro vs W hw hd K hK
          have h0 : vs 0 = .agg #[.slice ma mn mc, .int .i64 need] := hd 0 (by kernel_rfl)
          simp only [Nat.reduceAdd, h0] at hK ⊢
          go_simp
          refine (cR.out W hw).mono ?_
          rintro e W' ⟨rfl, hb'⟩
          exact hK.out _ _ rfl hb'
        case o2 =>
          intro vs W hw hd K hK
          have h1 : vs 1 = .int .i64 0 := hd 1 (by kernel_rfl)
          simp only [Nat.reduceAdd, h1] at hK ⊢
          go_simp
          exact hK.out _ _ rfl (Below.refl _ _)
        case o3 =>
          intro vs W hw hd K hK
          have h2 : vs 2 = .bool false := hd 2 (by kernel_rfl)
          simp only [Nat.reduceAdd, h2] at hK ⊢
          go_simp
          exact hK.out _ _ rfl (Below.refl _ _)
        case o4 =>
          intro vs W hw hd K hK
          have h3 : vs 3 = .bool false := hd 3 (by kernel_rfl)
          simp only [Nat.reduceAdd, h3] at hK ⊢
          go_simp
          exact hK.out _ _ rfl (Below.refl _ _)
        case o5 =>
          intro vs W hw hd K hK
          have h3 : vs 3 = .bool false := hd 3 (by kernel_rfl)
          have h4 : vs 4 = .slice al n cl := hd 4 (by kernel_rfl)
          simp only [Nat.reduceAdd, h3, h4] at hK ⊢
          go_simp
          refine (cA.out W hw).mono ?_
          rintro e W' ⟨rfl, hb'⟩
          exact hK.out _ _ rfl hb'
        case o6 =>
          intro vs W hw hd K hK
          have h3 : vs 3 = .bool false := hd 3 (by kernel_rfl)
          have h5 : vs 5 = .bool false := hd 5 (by kernel_rfl)
          simp only [Nat.reduceAdd, h3, h5] at hK ⊢
          go_simp
          exact hK.out _ _ rfl (Below.refl _ _)
        case o7 =>
          intro vs W hw hd K hK
          have h3 : vs 3 = .bool false := hd 3 (by kernel_rfl)
          have h6 : vs 6 = .bool true := hd 6 (by kernel_rfl)
          simp only [Nat.reduceAdd, h3, h6] at hK ⊢
          go_simp
          exact hK.out _ _ rfl (Below.refl _ _)
        case o8 =>
          intro vs W hw hd K hK
          have h7 : vs 7 = .bool true := hd 7 (by kernel_rfl)
          simp only [Nat.reduceAdd, h7] at hK ⊢
          go_simp
          exact hK.out _ _ rfl (Below.refl _ _)
        case o9 =>
          intro vs W hw hd K hK
          have h8 : vs 8 = .bool true := hd 8 (by kernel_rfl)
          simp only [Nat.reduceAdd, h8] at hK ⊢
          go_simp
          exact hK.out _ _ trivial (Below.refl _ _)
        case o10 =>
          intro vs W hw hd K hK
          have h8 : vs 8 = .bool true := hd 8 (by kernel_rfl)
          simp only [Nat.reduceAdd, h8] at hK ⊢
          go_simp
          exact hK.out _ _ trivial (Below.refl _ _)
        case o11 =>
          intro vs W hw hd K hK
          have h8 : vs 8 = .bool true := hd 8 (by kernel_rfl)
          simp only [Nat.reduceAdd, h8] at hK ⊢
          go_simp
          exact hK.out _ _ trivial (Below.refl _ _)
        case o12 =>
          intro vs W hw hd K hK
          have h8 : vs 8 = .bool true := hd 8 (by kernel_rfl)
          simp only [Nat.reduceAdd, h8] at hK ⊢
          go_simp
          exact hK.out _ _ trivial (Below.refl _ _)
        case o13 =>
          intro vs W hw hd K hK
          have h8 : vs 8 = .bool true := hd 8 (by kernel_rfl)
          simp only [Nat.reduceAdd, h8] at hK ⊢
          go_simp
          exact hK.out _ _ trivial (Below.refl _ _)
        case o14 =>
          intro vs W hw hd K hK
          have h8 : vs 8 = .bool true := hd 8 (by kernel_rfl)
          simp only [Nat.reduceAdd, h8] at hK ⊢
          go_simp
          exact hK.out _ _ trivial (Below.refl _ _)
        case o15 =>
          intro vs W hw hd K hK
          have h8 : vs 8 = .bool true := hd 8 (by kernel_rfl)
          simp only [Nat.reduceAdd, h8] at hK ⊢
          go_simp
          exact hK.out _ _ trivial (Below.refl _ _)
        case o16 =>
          intro vs W hw hd K hK
          have h8 : vs 8 = .bool true := hd 8 (by kernel_rfl)
          simp only [Nat.reduceAdd, h8] at hK ⊢
          go_simp
          exact hK.out _ _ rfl (Below.refl _ _)
        case o17 =>
          intro vs W hw hd K hK
          have h16 : vs 16 = .bool true := hd 16 (by kernel_rfl)
          simp only [Nat.reduceAdd, h16] at hK ⊢
          go_simp
          exact hK.out _ _ rfl (Below.refl _ _)
      case hfin =>
        intro vs W hw hd
        have h17 : vs 17 = .bool true := hd 17 (by decide)
        simp only [Nat.reduceAdd, h17]
        have HF := Lib.hid (HBw.out W hw)
        clear hd hw
        go_wp2
        first | exact ⟨rfl, HF.out⟩ | (go_ret; exact ⟨rfl, HF.out⟩)
    | true =>
      have cP := Lib.hid (cPx.out rfl rfl)
      have cQ := Lib.hid (cQx.out rfl rfl)
      have cI := Lib.hid (cI0.out rfl)
      clear cPx cQx cI0
      apply wp_region_inv (V := [.eq (.agg #[.slice ma mn mc, .int .i64 need]), .eq (.int .i64 0), .eq (.bool false), .eq (.bool false), .eq (.slice al n cl), .eq (.bool true), .eq (.bool false), .eq (.bool false), .eq (.bool false), .eq (.agg #[.slice ma mn mc, .int .i64 need]), .eq (.slice al n cl), .pl15 FF, .eq (.agg #[.slice ma mn mc, .int .i64 need]), .eq (.slice al n cl), .pl15 FF, .eq (.bool true), .eq (.bool true), .eq (.bool true)])
      case hm => kernel_rfl
      case hd => kernel_rfl
      case hb => kernel_rfl
      case hA =>
        intro vs
        simp only [puts, Act.put, List.setIfInBounds_toArray, List.set_cons_zero, List.set_cons_succ]
        exact rfl
      case hob =>
        refine Obs.cons _ _ _ _ _ _ ?o0 (Obs.cons _ _ _ _ _ _ ?o1 (Obs.cons _ _ _ _ _ _ ?o2 (Obs.cons _ _ _ _ _ _ ?o3 (Obs.cons _ _ _ _ _ _ ?o4 (Obs.cons _ _ _ _ _ _ ?o5 (Obs.cons _ _ _ _ _ _ ?o6 (Obs.cons _ _ _ _ _ _ ?o7 (Obs.cons _ _ _ _ _ _ ?o8 (Obs.cons _ _ _ _ _ _ ?o9 (Obs.cons _ _ _ _ _ _ ?o10 (Obs.cons _ _ _ _ _ _ ?o11 (Obs.cons _ _ _ _ _ _ ?o12 (Obs.cons _ _ _ _ _ _ ?o13 (Obs.cons _ _ _ _ _ _ ?o14 (Obs.cons _ _ _ _ _ _ ?o15 (Obs.cons _ _ _ _ _ _ ?o16 (Obs.cons _ _ _ _ _ _ ?o17 (Obs.nil _ _ _ _ _ _))))))))))))))))))
        case o0 =>
          intro vs W hw hd K hK
          obtain ⟨m0, m1⟩ := mcells2 (HMq.out W hw)
          go_simp
          exact hK.out _ _ rfl (Below.refl _ _)
        case o1 =>
          intro vs W hw hd K hK
          have h0 : vs 0 = .agg #[.slice ma mn mc, .int .i64 need] := hd 0 (by kernel_rfl)
          simp only [Nat.reduceAdd, h0] at hK ⊢
          go_simp
          refine (cR.out W hw).mono ?_
          rintro e W' ⟨rfl, hb'⟩
          exact hK.out _ _ rfl hb'
        case o2 =>
          intro vs W hw hd K hK
          have h1 : vs 1 = .int .i64 0 := hd 1 (by kernel_rfl)
          simp only [Nat.reduceAdd, h1] at hK ⊢
          go_simp
          exact hK.out _ _ rfl (Below.refl _ _)
        case o3 =>
          intro vs W hw hd K hK
          have h2 : vs 2 = .bool false := hd 2 (by kernel_rfl)
          simp only [Nat.reduceAdd, h2] at hK ⊢
          go_simp
          exact hK.out _ _ rfl (Below.refl _ _)
        case o4 =>
          intro vs W hw hd K hK
          have h3 : vs 3 = .bool false := hd 3 (by kernel_rfl)
          simp only [Nat.reduceAdd, h3] at hK ⊢
          go_simp
          exact hK.out _ _ rfl (Below.refl _ _)
        case o5 =>
          intro vs W hw hd K hK
          have h3 : vs 3 = .bool false := hd 3 (by kernel_rfl)
          have h4 : vs 4 = .slice al n cl := hd 4 (by kernel_rfl)
          simp only [Nat.reduceAdd, h3, h4] at hK ⊢
          go_simp
          refine (cA.out W hw).mono ?_
          rintro e W' ⟨rfl, hb'⟩
          exact hK.out _ _ rfl hb'
        case o6 =>
          intro vs W hw hd K hK
          have h3 : vs 3 = .bool false := hd 3 (by kernel_rfl)
          have h5 : vs 5 = .bool true := hd 5 (by kernel_rfl)
          simp only [Nat.reduceAdd, h3, h5] at hK ⊢
          go_simp
          exact hK.out _ _ rfl (Below.refl _ _)
        case o7 =>
          intro vs W hw hd K hK
          have h3 : vs 3 = .bool false := hd 3 (by kernel_rfl)
          have h6 : vs 6 = .bool false := hd 6 (by kernel_rfl)
          simp only [Nat.reduceAdd, h3, h6] at hK ⊢
          go_simp
          exact hK.out _ _ rfl (Below.refl _ _)
        case o8 =>
          intro vs W hw hd K hK
          have h7 : vs 7 = .bool false := hd 7 (by kernel_rfl)
          simp only [Nat.reduceAdd, h7] at hK ⊢
          go_simp
          exact hK.out _ _ rfl (Below.refl _ _)
        case o9 =>
          intro vs W hw hd K hK
          have h8 : vs 8 = .bool false := hd 8 (by kernel_rfl)
          obtain ⟨m0, m1⟩ := mcells2 (HMq.out W hw)
          simp only [Nat.reduceAdd, h8] at hK ⊢
          go_simp
          exact hK.out _ _ rfl (Below.refl _ _)
        case o10 =>
          intro vs W hw hd K hK
          have h8 : vs 8 = .bool false := hd 8 (by kernel_rfl)
          simp only [Nat.reduceAdd, h8] at hK ⊢
          go_simp
          exact hK.out _ _ rfl (Below.refl _ _)
        case o11 =>
          intro vs W hw hd K hK
          have h8 : vs 8 = .bool false := hd 8 (by kernel_rfl)
          have h9 : vs 9 = .agg #[.slice ma mn mc, .int .i64 need] := hd 9 (by kernel_rfl)
          have h10 : vs 10 = .slice al n cl := hd 10 (by kernel_rfl)
          simp only [Nat.reduceAdd, h8, h9, h10] at hK ⊢
          go_simp
          refine (cP.out W hw).mono ?_
          rintro e W' ⟨v', rfl, hil, hb'⟩
          exact hK.out _ _ hil hb'
        case o12 =>
          intro vs W hw hd K hK
          have h8 : vs 8 = .bool false := hd 8 (by kernel_rfl)
          obtain ⟨m0, m1⟩ := mcells2 (HMq.out W hw)
          simp only [Nat.reduceAdd, h8] at hK ⊢
          go_simp
          exact hK.out _ _ rfl (Below.refl _ _)
        case o13 =>
          intro vs W hw hd K hK
          have h8 : vs 8 = .bool false := hd 8 (by kernel_rfl)
          simp only [Nat.reduceAdd, h8] at hK ⊢
          go_simp
          exact hK.out _ _ rfl (Below.refl _ _)
        case o14 =>
          intro vs W hw hd K hK
          have h8 : vs 8 = .bool false := hd 8 (by kernel_rfl)
          have h12 : vs 12 = .agg #[.slice ma mn mc, .int .i64 need] := hd 12 (by kernel_rfl)
          have h13 : vs 13 = .slice al n cl := hd 13 (by kernel_rfl)
          simp only [Nat.reduceAdd, h8, h12, h13] at hK ⊢
          go_simp
          refine (cQ.out W hw).mono ?_
          rintro e W' ⟨v', rfl, hil, hb'⟩
          exact hK.out _ _ hil hb'
        case o15 =>
          intro vs W hw hd K hK
          have h8 : vs 8 = .bool false := hd 8 (by kernel_rfl)
          have q1 : PL (vs 11) FF W := hd 11 (by kernel_rfl)
          have q2 : PL (vs 14) FF W := hd 14 (by kernel_rfl)
          simp only [Nat.reduceAdd, h8] at hK ⊢
          go_simp
          refine (cI.out (vs 11) (vs 14) W q1 q2).mono ?_
          rintro e W' ⟨rfl, hb'⟩
          exact hK.out _ _ rfl hb'
        case o16 =>
          intro vs W hw hd K hK
          have h8 : vs 8 = .bool false := hd 8 (by kernel_rfl)
          have h15 : vs 15 = .bool true := hd 15 (by kernel_rfl)
          simp only [Nat.reduceAdd, h8, h15] at hK ⊢
          go_simp
          exact hK.out _ _ rfl (Below.refl _ _)
        case o17 =>
          intro vs W hw hd K hK
          have h16 : vs 16 = .bool true := hd 16 (by kernel_rfl)
          simp only [Nat.reduceAdd, h16] at hK ⊢
          go_simp
          exact hK.out _ _ rfl (Below.refl _ _)
      case hfin =>
        intro vs W hw hd
        have h17 : vs 17 = .bool true := hd 17 (by decide)
        simp only [Nat.reduceAdd, h17]
        have HF := Lib.hid (HBw.out W hw)
        clear hd hw
        go_wp2
        first | exact ⟨rfl, HF.out⟩ | (go_ret; exact ⟨rfl, HF.out⟩)
  · have hrb : (rr != 0) = true := by simpa using hr
    have hrf : decide (rr = 0) = false := by simpa using hr
    clear cPx cQx cI0 cA
    apply wp_region_inv (V := [.eq (.agg #[.slice ma mn mc, .int .i64 need]), .eq (.int .i64 rr), .eq (.bool true), .eq (.bool true), .any, .any, .any, .eq (.bool true), .eq (.bool true), .any, .any, .any, .any, .any, .any, .any, .eq (.bool true), .eq (.bool true)])
    case hm => kernel_rfl
    case hd => kernel_rfl
    case hb => kernel_rfl
    case hA =>
      intro vs
      simp only [puts, Act.put, List.setIfInBounds_toArray, List.set_cons_zero, List.set_cons_succ]
      exact rfl
    case hob =>
      refine Obs.cons _ _ _ _ _ _ ?o0 (Obs.cons _ _ _ _ _ _ ?o1 (Obs.cons _ _ _ _ _ _ ?o2 (Obs.cons _ _ _ _ _ _ ?o3 (Obs.cons _ _ _ _ _ _ ?o4 (Obs.cons _ _ _ _ _ _ ?o5 (Obs.cons _ _ _ _ _ _ ?o6 (Obs.cons _ _ _ _ _ _ ?o7 (Obs.cons _ _ _ _ _ _ ?o8 (Obs.cons _ _ _ _ _ _ ?o9 (Obs.cons _ _ _ _ _ _ ?o10 (Obs.cons _ _ _ _ _ _ ?o11 (Obs.cons _ _ _ _ _ _ ?o12 (Obs.cons _ _ _ _ _ _ ?o13 (Obs.cons _ _ _ _ _ _ ?o14 (Obs.cons _ _ _ _ _ _ ?o15 (Obs.cons _ _ _ _ _ _ ?o16 (Obs.cons _ _ _ _ _ _ ?o17 (Obs.nil _ _ _ _ _ _))))))))))))))))))
      case o0 =>
        intro vs W hw hd K hK
        obtain ⟨m0, m1⟩ := mcells2 (HMq.out W hw)
        go_simp
        exact hK.out _ _ rfl (Below.refl _ _)
      case o1 =>
        intro vs W hw hd K hK
        have h0 : vs 0 = .agg #[.slice ma mn mc, .int .i64 need] := hd 0 (by kernel_rfl)
        simp only [Nat.reduceAdd, h0] at hK ⊢
        go_simp
        refine (cR.out W hw).mono ?_
        rintro e W' ⟨rfl, hb'⟩
        exact hK.out _ _ rfl hb'
      case o2 =>
        intro vs W hw hd K hK
        have h1 : vs 1 = .int .i64 rr := hd 1 (by kernel_rfl)
        simp only [Nat.reduceAdd, h1] at hK ⊢
        go_simp
        exact hK.out _ _ rfl (Below.refl _ _)
      case o3 =>
        intro vs W hw hd K hK
        have h2 : vs 2 = .bool true := hd 2 (by kernel_rfl)
        simp only [Nat.reduceAdd, h2] at hK ⊢
        go_simp
        exact hK.out _ _ rfl (Below.refl _ _)
      case o4 =>
        intro vs W hw hd K hK
        have h3 : vs 3 = .bool true := hd 3 (by kernel_rfl)
        simp only [Nat.reduceAdd, h3] at hK ⊢
        go_simp
        exact hK.out _ _ trivial (Below.refl _ _)
      case o5 =>
        intro vs W hw hd K hK
        have h3 : vs 3 = .bool true := hd 3 (by kernel_rfl)
        simp only [Nat.reduceAdd, h3] at hK ⊢
        go_simp
        exact hK.out _ _ trivial (Below.refl _ _)
      case o6 =>
        intro vs W hw hd K hK
        have h3 : vs 3 = .bool true := hd 3 (by kernel_rfl)
        simp only [Nat.reduceAdd, h3] at hK ⊢
        go_simp
        exact hK.out _ _ trivial (Below.refl _ _)
      case o7 =>
        intro vs W hw hd K hK
        have h3 : vs 3 = .bool true := hd 3 (by kernel_rfl)
        simp only [Nat.reduceAdd, h3] at hK ⊢
        go_simp
        exact hK.out _ _ rfl (Below.refl _ _)
      case o8 =>
        intro vs W hw hd K hK
        have h7 : vs 7 = .bool true := hd 7 (by kernel_rfl)
        simp only [Nat.reduceAdd, h7] at hK ⊢
        go_simp
        exact hK.out _ _ rfl (Below.refl _ _)
      case o9 =>
        intro vs W hw hd K hK
        have h8 : vs 8 = .bool true := hd 8 (by kernel_rfl)
        simp only [Nat.reduceAdd, h8] at hK ⊢
        go_simp
        exact hK.out _ _ trivial (Below.refl _ _)
      case o10 =>
        intro vs W hw hd K hK
        have h8 : vs 8 = .bool true := hd 8 (by kernel_rfl)
        simp only [Nat.reduceAdd, h8] at hK ⊢
        go_simp
        exact hK.out _ _ trivial (Below.refl _ _)
      case o11 =>
        intro vs W hw hd K hK
        have h8 : vs 8 = .bool true := hd 8 (by kernel_rfl)
        simp only [Nat.reduceAdd, h8] at hK ⊢
        go_simp
        exact hK.out _ _ trivial (Below.refl _ _)
      case o12 =>
        intro vs W hw hd K hK
        have h8 : vs 8 = .bool true := hd 8 (by kernel_rfl)
        simp only [Nat.reduceAdd, h8] at hK ⊢
        go_simp
        exact hK.out _ _ trivial (Below.refl _ _)
      case o13 =>
        intro vs W hw hd K hK
        have h8 : vs 8 = .bool true := hd 8 (by kernel_rfl)
        simp only [Nat.reduceAdd, h8] at hK ⊢
        go_simp
        exact hK.out _ _ trivial (Below.refl _ _)
      case o14 =>
        intro vs W hw hd K hK
        have h8 : vs 8 = .bool true := hd 8 (by kernel_rfl)
        simp only [Nat.reduceAdd, h8] at hK ⊢
        go_simp
        exact hK.out _ _ trivial (Below.refl _ _)
      case o15 =>
        intro vs W hw hd K hK
        have h8 : vs 8 = .bool true := hd 8 (by kernel_rfl)
        simp only [Nat.reduceAdd, h8] at hK ⊢
        go_simp
        exact hK.out _ _ trivial (Below.refl _ _)
      case o16 =>
        intro vs W hw hd K hK
        have h8 : vs 8 = .bool true := hd 8 (by kernel_rfl)
        simp only [Nat.reduceAdd, h8] at hK ⊢
        go_simp
        exact hK.out _ _ rfl (Below.refl _ _)
      case o17 =>
        intro vs W hw hd K hK
        have h16 : vs 16 = .bool true := hd 16 (by kernel_rfl)
        simp only [Nat.reduceAdd, h16] at hK ⊢
        go_simp
        exact hK.out _ _ rfl (Below.refl _ _)
    case hfin =>
      intro vs W hw hd
      have h17 : vs 17 = .bool true := hd 17 (by decide)
      simp only [Nat.reduceAdd, h17]
      have HF := Lib.hid (HBw.out W hw)
      clear hd hw
      go_wp2
      first | exact ⟨rfl, HF.out⟩ | (go_ret; exact ⟨rfl, HF.out⟩)
end

end Go.Proofs.YtfjfpefpdlecbaaGreatDoor
