/- Merged: LE15. -/
import Derived.Test.YtfjfpefpdlecbaaGreatDoorQ40
import Derived.Test.YtfjfpefpdlecbaaGreatDoorQ43
import Derived.Test.YtfjfpefpdlecbaaGreatDoorQ45
namespace Go.Proofs.YtfjfpefpdlecbaaGreatDoor

section
open Go.RowKit Go.PlainAid
set_option maxHeartbeats 32000000 in
set_option maxRecDepth 100000 in
theorem lawFind15_any (m : MRule) (mv : Value) (u : Value) (l : List Rec) (r : Rec) (ur : Value) (w : World) (hE : Env w) (hm : KL mv m.keys w) (hu : RL u l w) (hr : FL ur r.fields w) :
    Calls Tryz.prog 6 #[MV m mv, u, RV r ur] w fun e w' => e = .returned (.bool true) ∧ Below w.heap.size w w' := by
  obtain ⟨U0, hU0⟩ : ∃ W0, w.alloc (.cells #[mv, .int .i64 m.need] 24) = W0 := ⟨_, rfl⟩
  have hu0 : U0.heap[w.heap.size]? = some (.cells #[mv, .int .i64 m.need] 24 (0, 0)) := by rw [← hU0]; exact heap_alloc_new w _
  have su0 : U0.heap.size = w.heap.size + 1 := by rw [← hU0]; simp
  have bu0 : Below w.heap.size w U0 := by rw [← hU0]; exact (Below.refl w.heap.size w).alloc (Nat.le_refl _) _
  obtain ⟨W0, hW0⟩ : ∃ W0, U0.alloc (.cells #[.int .i64 r.id, .int .i64 r.ver, .int .i64 r.kind, .string (S r.lang), ur] 33) = W0 := ⟨_, rfl⟩
  have hr0 : W0.heap[w.heap.size + 1]? = some (.cells #[.int .i64 r.id, .int .i64 r.ver, .int .i64 r.kind, .string (S r.lang), ur] 33 (0, 0)) := by rw [← hW0, ← su0]; exact heap_alloc_new U0 _
  have su1 : W0.heap.size = w.heap.size + 1 + 1 := by rw [← hW0]; simp [su0]
  have bu1 : Below U0.heap.size U0 W0 := by rw [← hW0]; exact (Below.refl U0.heap.size U0).alloc (Nat.le_refl _) _
  have b0 : Below w.heap.size w W0 := bu0.trans (bu1.mono bu0.size)
  have hm0 : W0.heap[w.heap.size]? = some (.cells #[mv, .int .i64 m.need] 24 (0, 0)) := (bu1.block _ (by omega)).trans hu0
  have HRx := Lib.hid (fun (W : World) (h : Below W0.heap.size W0 W) => (h.block (w.heap.size + 1) (by omega)).trans hr0)
  have HMx := Lib.hid (fun (W : World) (h : Below W0.heap.size W0 W) => (h.block w.heap.size (by omega)).trans hm0)
  have hWw := fun (W : World) (h : Below W0.heap.size W0 W) => b0.trans (h.mono b0.size)
  have c1 := Lib.hid (lalive15_any W0 (hE.after b0))
  have cR0 := Lib.hid (fun (W : World) (h : Below W0.heap.size W0 W) => refRight15_any m mv W (hm.after (hWw W h)))
  obtain ⟨va, hva⟩ : ∃ x, allB l = x := ⟨_, rfl⟩
  have cA0 := Lib.hid (fun (W : World) (h : Below W0.heap.size W0 W) => lall_any l u W (hu.after (hWw W h)) va hva)
  obtain ⟨vb, hvb⟩ : ∃ x, validR r = x := ⟨_, rfl⟩
  have cV0 := Lib.hid (fun (W : World) (h : Below W0.heap.size W0 W) => lvalid_any r ur W (hr.after (hWw W h)) vb hvb)
  have cP0 := Lib.hid (fun (hq : rightM m = 0) (h1 : va = true) (h2 : vb = true) (W : World) (h : Below W0.heap.size W0 W) => pFind_any m mv l u r ur W (hE.after (hWw W h)) (hm.after (hWw W h)) (okM_of m hq) (okN_of m hq) (hu.after (hWw W h)) (allB_ok l (hva.trans h1)).2.1 (allB_ok l (hva.trans h1)).1 (allB_ok l (hva.trans h1)).2.2 (hr.after (hWw W h)) (validR_ok r (hvb.trans h2)))
  have cQ0 := Lib.hid (fun (hq : rightM m = 0) (h1 : va = true) (h2 : vb = true) (W : World) (h : Below W0.heap.size W0 W) => refFind_any m mv l u r ur W (hm.after (hWw W h)) (okM_of m hq) (hu.after (hWw W h)) (allB_ok l (hva.trans h1)).2.1 (allB_ok l (hva.trans h1)).1 (hr.after (hWw W h)) (validR_ok r (hvb.trans h2)))
  have cI0 := Lib.hid (fun (h1 : va = true) (p q : Value) (W : World) (e1 : IL p (findM m l r) W) (e2 : IL q (findM m l r) W) => refInts_any p q (findM m l r) (findM m l r) W e1 e2 (by have := find_len15 m l r; have := (allB_ok l (hva.trans h1)).1; omega) (by have := find_len15 m l r; have := (allB_ok l (hva.trans h1)).1; omega) true (by simp))
  have HBw0 := Lib.hid hWw
  obtain ⟨ma, mc, hv⟩ : ∃ x cap, mv = .slice x m.keys.length cap := by
    obtain ⟨x, cap, h, -⟩ := hm
    exact ⟨x, cap, h⟩
  obtain ⟨al, cl, hvA, -, -⟩ := hu.length
  obtain ⟨ra, rc, hvB, -, -⟩ := hr.length
  have hW : (w.alloc (.cells #[mv, .int .i64 m.need] 24)).alloc (.cells #[.int .i64 r.id, .int .i64 r.ver, .int .i64 r.kind, .string (S r.lang), ur] 33) = W0 := by rw [hU0, hW0]
  unfold MV RV at *
  subst hv hvA hvB
  have HW0 := Lib.hid hW
  clear hU0 hu0 su0 bu0 hW0 hr0 su1 bu1 b0 hm0 hWw hva hvb hm hu hr hE hW
  generalize m.keys.length = mn at *
  generalize hnd : m.need = need at *
  clear hnd
  generalize rightM m = rr at *
  generalize findM m l r = FF at *
  generalize l.length = n at *
  generalize r.fields.length = rn at *
  generalize S r.lang = lg at *
  generalize r.id = rid at *
  generalize r.ver = rver at *
  generalize r.kind = rkind at *
  go_enter Tryz.func6, Tryz.ntmps6
  go_upto_region 1 with fail
  rw [HW0.out]
  clear HW0
  go_wp2_with fail
  refine c1.out.mono ?_
  rintro e w1 ⟨rfl, hb1⟩
  have HMq := Lib.hid (fun (W : World) (h : Below w1.heap.size w1 W) => HMx.out W (hb1.trans (h.mono hb1.size)))
  have HBw := Lib.hid (fun (W : World) (h : Below w1.heap.size w1 W) => HBw0.out W (hb1.trans (h.mono hb1.size)))
  have cR := Lib.hid (fun (W : World) (h : Below w1.heap.size w1 W) => cR0.out W (hb1.trans (h.mono hb1.size)))
  have cA := Lib.hid (fun (W : World) (h : Below w1.heap.size w1 W) => cA0.out W (hb1.trans (h.mono hb1.size)))
  have HRq := Lib.hid (fun (W : World) (h : Below w1.heap.size w1 W) => HRx.out W (hb1.trans (h.mono hb1.size)))
  have cV := Lib.hid (fun (W : World) (h : Below w1.heap.size w1 W) => cV0.out W (hb1.trans (h.mono hb1.size)))
  have cPx := Lib.hid (fun (hq : rr = 0) (h1 : va = true) (h2 : vb = true) (W : World) (h : Below w1.heap.size w1 W) => cP0.out hq h1 h2 W (hb1.trans (h.mono hb1.size)))
  have cQx := Lib.hid (fun (hq : rr = 0) (h1 : va = true) (h2 : vb = true) (W : World) (h : Below w1.heap.size w1 W) => cQ0.out hq h1 h2 W (hb1.trans (h.mono hb1.size)))
  clear hb1 c1 cR0 cA0 cP0 cQ0 HMx HBw0 HRx cV0
  go_upto_region 3 with fail
  by_cases hr : rr = 0
  · subst hr
    cases va with
    | false =>
      clear cPx cQx cI0 cV
      apply wp_region_inv (V := [.eq (.agg #[.slice ma mn mc, .int .i64 need]), .eq (.int .i64 0), .eq (.bool false), .eq (.bool false), .eq (.slice al n cl), .eq (.bool false), .eq (.bool true), .eq (.bool true), .eq (.bool true), .any, .any, .any, .eq (.bool true), .eq (.bool true), .any, .any, .any, .any, .any, .any, .any, .any, .any, .eq (.bool true), .eq (.bool true)])
      case hm => kernel_rfl
      case hd => kernel_rfl
      case hb => kernel_rfl
      case hA =>
        intro vs
        simp only [puts, Act.put, List.setIfInBounds_toArray, List.set_cons_zero, List.set_cons_succ]
        exact rfl
      case hob =>
        refine Obs.cons _ _ _ _ _ _ ?o0 (Obs.cons _ _ _ _ _ _ ?o1 (Obs.cons _ _ _ _ _ _ ?o2 (Obs.cons _ _ _ _ _ _ ?o3 (Obs.cons _ _ _ _ _ _ ?o4 (Obs.cons _ _ _ _ _ _ ?o5 (Obs.cons _ _ _ _ _ _ ?o6 (Obs.cons _ _ _ _ _ _ ?o7 (Obs.cons _ _ _ _ _ _ ?o8 (Obs.cons _ _ _ _ _ _ ?o9 (Obs.cons _ _ _ _ _ _ ?o10 (Obs.cons _ _ _ _ _ _ ?o11 (Obs.cons _ _ _ _ _ _ ?o12 (Obs.cons _ _ _ _ _ _ ?o13 (Obs.cons _ _ _ _ _ _ ?o14 (Obs.cons _ _ _ _ _ _ ?o15 (Obs.cons _ _ _ _ _ _ ?o16 (Obs.cons _ _ _ _ _ _ ?o17 (Obs.cons _ _ _ _ _ _ ?o18 (Obs.cons _ _ _ _ _ _ ?o19 (Obs.cons _ _ _ _ _ _ ?o20 (Obs.cons _ _ _ _ _ _ ?o21 (Obs.cons _ _ _ _ _ _ ?o22 (Obs.cons _ _ _ _ _ _ ?o23 (Obs.cons _ _ _ _ _ _ ?o24 (Obs.nil _ _ _ _ _ _)))))))))))))))))))))))))
        case o0 =>
          intro vs W hw hd K hK
          obtain ⟨m0, m1⟩ := mcells2 (HMq.out W hw)
          go_simp
          exact hK.out _ _ rfl (Below.refl _ _)
        case o1 =>
          intro vs W hw hd K hK
          have h0 : vs 0 = .agg #[.slice ma mn mc, .int .i64 need] := hd 0 (by kernel_rfl)
          simp only [Nat.reduceAdd, h0] at hK ⊢
          go_simp
          refine (cR.out W hw).mono ?_
          rintro e W' ⟨rfl, hb'⟩
          exact hK.out _ _ rfl hb'
        case o2 =>
          intro vs W hw hd K hK
          have h1 : vs 1 = .int .i64 0 := hd 1 (by kernel_rfl)
          simp only [Nat.reduceAdd, h1] at hK ⊢
          go_simp
          exact hK.out _ _ rfl (Below.refl _ _)
        case o3 =>
          intro vs W hw hd K hK
          have h2 : vs 2 = .bool false := hd 2 (by kernel_rfl)
          simp only [Nat.reduceAdd, h2] at hK ⊢
          go_simp
          exact hK.out _ _ rfl (Below.refl _ _)
        case o4 =>
          intro vs W hw hd K hK
          have h3 : vs 3 = .bool false := hd 3 (by kernel_rfl)
          simp only [Nat.reduceAdd, h3] at hK ⊢
          go_simp
          exact hK.out _ _ rfl (Below.refl _ _)
        case o5 =>
          intro vs W hw hd K hK
          have h3 : vs 3 = .bool false := hd 3 (by kernel_rfl)
          have h4 : vs 4 = .slice al n cl := hd 4 (by kernel_rfl)
          simp only [Nat.reduceAdd, h3, h4] at hK ⊢
          go_simp
          refine (cA.out W hw).mono ?_
          rintro e W' ⟨rfl, hb'⟩
          exact hK.out _ _ rfl hb'
        case o6 =>
          intro vs W hw hd K hK
          have h3 : vs 3 = .bool false := hd 3 (by kernel_rfl)
          have h5 : vs 5 = .bool false := hd 5 (by kernel_rfl)
          simp only [Nat.reduceAdd, h3, h5] at hK ⊢
          go_simp
          exact hK.out _ _ rfl (Below.refl _ _)
        case o7 =>
          intro vs W hw hd K hK
          have h3 : vs 3 = .bool false := hd 3 (by kernel_rfl)
          have h6 : vs 6 = .bool true := hd 6 (by kernel_rfl)
          simp only [Nat.reduceAdd, h3, h6] at hK ⊢
          go_simp
          exact hK.out _ _ rfl (Below.refl _ _)
        case o8 =>
          intro vs W hw hd K hK
          have h7 : vs 7 = .bool true := hd 7 (by kernel_rfl)
          simp only [Nat.reduceAdd, h7] at hK ⊢
          go_simp
          exact hK.out _ _ rfl (Below.refl _ _)
        case o9 =>
          intro vs W hw hd K hK
          have h8 : vs 8 = .bool true := hd 8 (by kernel_rfl)
          simp only [Nat.reduceAdd, h8] at hK ⊢
          go_simp
          exact hK.out _ _ trivial (Below.refl _ _)
        case o10 =>
          intro vs W hw hd K hK
          have h8 : vs 8 = .bool true := hd 8 (by kernel_rfl)
          simp only [Nat.reduceAdd, h8] at hK ⊢
          go_simp
          exact hK.out _ _ trivial (Below.refl _ _)
        case o11 =>
          intro vs W hw hd K hK
          have h8 : vs 8 = .bool true := hd 8 (by kernel_rfl)
          simp only [Nat.reduceAdd, h8] at hK ⊢
          go_simp
          exact hK.out _ _ trivial (Below.refl _ _)
        case o12 =>
          intro vs W hw hd K hK
          have h8 : vs 8 = .bool true := hd 8 (by kernel_rfl)
          simp only [Nat.reduceAdd, h8] at hK ⊢
          go_simp
          exact hK.out _ _ rfl (Below.refl _ _)
        case o13 =>
          intro vs W hw hd K hK
          have h12 : vs 12 = .bool true := hd 12 (by kernel_rfl)
          simp only [Nat.reduceAdd, h12] at hK ⊢
          go_simp
          exact hK.out _ _ rfl (Below.refl _ _)
        case o14 =>
          intro vs W hw hd K hK
          have h13 : vs 13 = .bool true := hd 13 (by kernel_rfl)
          simp only [Nat.reduceAdd, h13] at hK ⊢
          go_simp
          exact hK.out _ _ trivial (Below.refl _ _)
        case o15 =>
          intro vs W hw hd K hK
          have h13 : vs 13 = .bool true := hd 13 (by kernel_rfl)
          simp only [Nat.reduceAdd, h13] at hK ⊢
          go_simp
          exact hK.out _ _ trivial (Below.refl _ _)
        case o16 =>
          intro vs W hw hd K hK
          have h13 : vs 13 = .bool true := hd 13 (by kernel_rfl)
          simp only [Nat.reduceAdd, h13] at hK ⊢
          go_simp
          exact hK.out _ _ trivial (Below.refl _ _)
        case o17 =>
          intro vs W hw hd K hK
          have h13 : vs 13 = .bool true := hd 13 (by kernel_rfl)
          simp only [Nat.reduceAdd, h13] at hK ⊢
          go_simp
          exact hK.out _ _ trivial (Below.refl _ _)
        case o18 =>
          intro vs W hw hd K hK
          have h13 : vs 13 = .bool true := hd 13 (by kernel_rfl)
          simp only [Nat.reduceAdd, h13] at hK ⊢
          go_simp
          exact hK.out _ _ trivial (Below.refl _ _)
        case o19 =>
          intro vs W hw hd K hK
          have h13 : vs 13 = .bool true := hd 13 (by kernel_rfl)
          simp only [Nat.reduceAdd, h13] at hK ⊢
          go_simp
          exact hK.out _ _ trivial (Below.refl _ _)
        case o20 =>
          intro vs W hw hd K hK
          have h13 : vs 13 = .bool true := hd 13 (by kernel_rfl)
          simp only [Nat.reduceAdd, h13] at hK ⊢
          go_simp
          exact hK.out _ _ trivial (Below.refl _ _)
        case o21 =>
          intro vs W hw hd K hK
          have h13 : vs 13 = .bool true := hd 13 (by kernel_rfl)
          simp only [Nat.reduceAdd, h13] at hK ⊢
          go_simp
          exact hK.out _ _ trivial (Below.refl _ _)
        case o22 =>
          intro vs W hw hd K hK
          have h13 : vs 13 = .bool true := hd 13 (by kernel_rfl)
          simp only [Nat.reduceAdd, h13] at hK ⊢
          go_simp
          exact hK.out _ _ trivial (Below.refl _ _)
        case o23 =>
          intro vs W hw hd K hK
          have h13 : vs 13 = .bool true := hd 13 (by kernel_rfl)
          simp only [Nat.reduceAdd, h13] at hK ⊢
          go_simp
          exact hK.out _ _ rfl (Below.refl _ _)
        case o24 =>
          intro vs W hw hd K hK
          have h23 : vs 23 = .bool true := hd 23 (by kernel_rfl)
          simp only [Nat.reduceAdd, h23] at hK ⊢
          go_simp
          exact hK.out _ _ rfl (Below.refl _ _)
      case hfin =>
        intro vs W hw hd
        have h24 : vs 24 = .bool true := hd 24 (by decide)
        simp only [Nat.reduceAdd, h24]
        have HF := Lib.hid (HBw.out W hw)
        clear hd hw
        go_wp2
        first | exact ⟨rfl, HF.out⟩ | (go_ret; exact ⟨rfl, HF.out⟩)
    | true =>
    cases vb with
    | false =>
      clear cPx cQx cI0
      apply wp_region_inv (V := [.eq (.agg #[.slice ma mn mc, .int .i64 need]), .eq (.int .i64 0), .eq (.bool false), .eq (.bool false), .eq (.slice al n cl), .eq (.bool true), .eq (.bool false), .eq (.bool false), .eq (.bool false), .eq (.agg #[.int .i64 rid, .int .i64 rver, .int .i64 rkind, .string lg, .slice ra rn rc]), .eq (.bool false), .eq (.bool true), .eq (.bool true), .eq (.bool true), .any, .any, .any, .any, .any, .any, .any, .any, .any, .eq (.bool true), .eq (.bool true)])
      case hm => kernel_rfl
      case hd => kernel_rfl
      case hb => kernel_rfl
      case hA =>
        intro vs
        simp only [puts, Act.put, List.setIfInBounds_toArray, List.set_cons_zero, List.set_cons_succ]
        exact rfl
      case hob =>
        refine Obs.cons _ _ _ _ _ _ ?o0 (Obs.cons _ _ _ _ _ _ ?o1 (Obs.cons _ _ _ _ _ _ ?o2 (Obs.cons _ _ _ _ _ _ ?o3 (Obs.cons _ _ _ _ _ _ ?o4 (Obs.cons _ _ _ _ _ _ ?o5 (Obs.cons _ _ _ _ _ _ ?o6 (Obs.cons _ _ _ _ _ _ ?o7 (Obs.cons _ _ _ _ _ _ ?o8 (Obs.cons _ _ _ _ _ _ ?o9 (Obs.cons _ _ _ _ _ _ ?o10 (Obs.cons _ _ _ _ _ _ ?o11 (Obs.cons _ _ _ _ _ _ ?o12 (Obs.cons _ _ _ _ _ _ ?o13 (Obs.cons _ _ _ _ _ _ ?o14 (Obs.cons _ _ _ _ _ _ ?o15 (Obs.cons _ _ _ _ _ _ ?o16 (Obs.cons _ _ _ _ _ _ ?o17 (Obs.cons _ _ _ _ _ _ ?o18 (Obs.cons _ _ _ _ _ _ ?o19 (Obs.cons _ _ _ _ _ _ ?o20 (Obs.cons _ _ _ _ _ _ ?o21 (Obs.cons _ _ _ _ _ _ ?o22 (Obs.cons _ _ _ _ _ _ ?o23 (Obs.cons _ _ _ _ _ _ ?o24 (Obs.nil _ _ _ _ _ _)))))))))))))))))))))))))
        case o0 =>
          intro vs W hw hd K hK
          obtain ⟨m0, m1⟩ := mcells2 (HMq.out W hw)
          go_simp
          exact hK.out _ _ rfl (Below.refl _ _)
        case o1 =>
          intro vs W hw hd K hK
          have h0 : vs 0 = .agg #[.slice ma mn mc, .int .i64 need] := hd 0 (by kernel_rfl)
          simp only [Nat.reduceAdd, h0] at hK ⊢
          go_simp
          refine (cR.out W hw).mono ?_
          rintro e W' ⟨rfl, hb'⟩
          exact hK.out _ _ rfl hb'
        case o2 =>
          intro vs W hw hd K hK
          have h1 : vs 1 = .int .i64 0 := hd 1 (by kernel_rfl)
          simp only [Nat.reduceAdd, h1] at hK ⊢
          go_simp
          exact hK.out _ _ rfl (Below.refl _ _)
        case o3 =>
          intro vs W hw hd K hK
          have h2 : vs 2 = .bool false := hd 2 (by kernel_rfl)
          simp only [Nat.reduceAdd, h2] at hK ⊢
          go_simp
          exact hK.out _ _ rfl (Below.refl _ _)
        case o4 =>
          intro vs W hw hd K hK
          have h3 : vs 3 = .bool false := hd 3 (by kernel_rfl)
          simp only [Nat.reduceAdd, h3] at hK ⊢
          go_simp
          exact hK.out _ _ rfl (Below.refl _ _)
        case o5 =>
          intro vs W hw hd K hK
          have h3 : vs 3 = .bool false := hd 3 (by kernel_rfl)
          have h4 : vs 4 = .slice al n cl := hd 4 (by kernel_rfl)
          simp only [Nat.reduceAdd, h3, h4] at hK ⊢
          go_simp
          refine (cA.out W hw).mono ?_
          rintro e W' ⟨rfl, hb'⟩
          exact hK.out _ _ rfl hb'
        case o6 =>
          intro vs W hw hd K hK
          have h3 : vs 3 = .bool false := hd 3 (by kernel_rfl)
          have h5 : vs 5 = .bool true := hd 5 (by kernel_rfl)
          simp only [Nat.reduceAdd, h3, h5] at hK ⊢
          go_simp
          exact hK.out _ _ rfl (Below.refl _ _)
        case o7 =>
          intro vs W hw hd K hK
          have h3 : vs 3 = .bool false := hd 3 (by kernel_rfl)
          have h6 : vs 6 = .bool false := hd 6 (by kernel_rfl)
          simp only [Nat.reduceAdd, h3, h6] at hK ⊢
          go_simp
          exact hK.out _ _ rfl (Below.refl _ _)
        case o8 =>
          intro vs W hw hd K hK
          have h7 : vs 7 = .bool false := hd 7 (by kernel_rfl)
          simp only [Nat.reduceAdd, h7] at hK ⊢
          go_simp
          exact hK.out _ _ rfl (Below.refl _ _)
        case o9 =>
          intro vs W hw hd K hK
          have h8 : vs 8 = .bool false := hd 8 (by kernel_rfl)
          obtain ⟨x0, x1, x2, x3, x4⟩ := rcells5 (HRq.out W hw)
          simp only [Nat.reduceAdd, h8] at hK ⊢
          go_simp
          exact hK.out _ _ rfl (Below.refl _ _)
        case o10 =>
          intro vs W hw hd K hK
          have h8 : vs 8 = .bool false := hd 8 (by kernel_rfl)
          have h9 : vs 9 = .agg #[.int .i64 rid, .int .i64 rver, .int .i64 rkind, .string lg, .slice ra rn rc] := hd 9 (by kernel_rfl)
          simp only [Nat.reduceAdd, h8, h9] at hK ⊢
          go_simp
          refine (cV.out W hw).mono ?_
          rintro e W' ⟨rfl, hb'⟩
          exact hK.out _ _ rfl hb'
        case o11 =>
          intro vs W hw hd K hK
          have h8 : vs 8 = .bool false := hd 8 (by kernel_rfl)
          have h10 : vs 10 = .bool false := hd 10 (by kernel_rfl)
          simp only [Nat.reduceAdd, h8, h10] at hK ⊢
          go_simp
          exact hK.out _ _ rfl (Below.refl _ _)
        case o12 =>
          intro vs W hw hd K hK
          have h8 : vs 8 = .bool false := hd 8 (by kernel_rfl)
          have h11 : vs 11 = .bool true := hd 11 (by kernel_rfl)
          simp only [Nat.reduceAdd, h8, h11] at hK ⊢
          go_simp
          exact hK.out _ _ rfl (Below.refl _ _)
        case o13 =>
          intro vs W hw hd K hK
          have h12 : vs 12 = .bool true := hd 12 (by kernel_rfl)
          simp only [Nat.reduceAdd, h12] at hK ⊢
          go_simp
          exact hK.out _ _ rfl (Below.refl _ _)
        case o14 =>
          intro vs W hw hd K hK
          have h13 : vs 13 = .bool true := hd 13 (by kernel_rfl)
          simp only [Nat.reduceAdd, h13] at hK ⊢
          go_simp
          exact hK.out _ _ trivial (Below.refl _ _)
        case o15 =>
          intro vs W hw hd K hK
          have h13 : vs 13 = .bool true := hd 13 (by kernel_rfl)
          simp only [Nat.reduceAdd, h13] at hK ⊢
          go_simp
          exact hK.out _ _ trivial (Below.refl _ _)
        case o16 =>
          intro vs W hw hd K hK
          have h13 : vs 13 = .bool true := hd 13 (by kernel_rfl)
          simp only [Nat.reduceAdd, h13] at hK ⊢
          go_simp
          exact hK.out _ _ trivial (Below.refl _ _)
        case o17 =>
          intro vs W hw hd K hK
          have h13 : vs 13 = .bool true := hd 13 (by kernel_rfl)
          simp only [Nat.reduceAdd, h13] at hK ⊢
          go_simp
          exact hK.out _ _ trivial (Below.refl _ _)
        case o18 =>
          intro vs W hw hd K hK
          have h13 : vs 13 = .bool true := hd 13 (by kernel_rfl)
          simp only [Nat.reduceAdd, h13] at hK ⊢
          go_simp
          exact hK.out _ _ trivial (Below.refl _ _)
        case o19 =>
          intro vs W hw hd K hK
          have h13 : vs 13 = .bool true := hd 13 (by kernel_rfl)
          simp only [Nat.reduceAdd, h13] at hK ⊢
          go_simp
          exact hK.out _ _ trivial (Below.refl _ _)
        case o20 =>
          intro vs W hw hd K hK
          have h13 : vs 13 = .bool true := hd 13 (by kernel_rfl)
          simp only [Nat.reduceAdd, h13] at hK ⊢
          go_simp
          exact hK.out _ _ trivial (Below.refl _ _)
        case o21 =>
          intro vs W hw hd K hK
          have h13 : vs 13 = .bool true := hd 13 (by kernel_rfl)
          simp only [Nat.reduceAdd, h13] at hK ⊢
          go_simp
          exact hK.out _ _ trivial (Below.refl _ _)
        case o22 =>
          intro vs W hw hd K hK
          have h13 : vs 13 = .bool true := hd 13 (by kernel_rfl)
          simp only [Nat.reduceAdd, h13] at hK ⊢
          go_simp
          exact hK.out _ _ trivial (Below.refl _ _)
        case o23 =>
          intro vs W hw hd K hK
          have h13 : vs 13 = .bool true := hd 13 (by kernel_rfl)
          simp only [Nat.reduceAdd, h13] at hK ⊢
          go_simp
          exact hK.out _ _ rfl (Below.refl _ _)
        case o24 =>
          intro vs W hw hd K hK
          have h23 : vs 23 = .bool true := hd 23 (by kernel_rfl)
          simp only [Nat.reduceAdd, h23] at hK ⊢
          go_simp
          exact hK.out _ _ rfl (Below.refl _ _)
      case hfin =>
        intro vs W hw hd
        have h24 : vs 24 = .bool true := hd 24 (by decide)
        simp only [Nat.reduceAdd, h24]
        have HF := Lib.hid (HBw.out W hw)
        clear hd hw
        go_wp2
        first | exact ⟨rfl, HF.out⟩ | (go_ret; exact ⟨rfl, HF.out⟩)
    | true =>
      have cP := Lib.hid (cPx.out rfl rfl rfl)
      have cQ := Lib.hid (cQx.out rfl rfl rfl)
      have cI := Lib.hid (cI0.out rfl)
      clear cPx cQx cI0
      apply wp_region_inv (V := [.eq (.agg #[.slice ma mn mc, .int .i64 need]), .eq (.int .i64 0), .eq (.bool false), .eq (.bool false), .eq (.slice al n cl), .eq (.bool true), .eq (.bool false), .eq (.bool false), .eq (.bool false), .eq (.agg #[.int .i64 rid, .int .i64 rver, .int .i64 rkind, .string lg, .slice ra rn rc]), .eq (.bool true), .eq (.bool false), .eq (.bool false), .eq (.bool false), .eq (.agg #[.slice ma mn mc, .int .i64 need]), .eq (.slice al n cl), .eq (.agg #[.int .i64 rid, .int .i64 rver, .int .i64 rkind, .string lg, .slice ra rn rc]), .il15 FF, .eq (.agg #[.slice ma mn mc, .int .i64 need]), .eq (.slice al n cl), .eq (.agg #[.int .i64 rid, .int .i64 rver, .int .i64 rkind, .string lg, .slice ra rn rc]), .il15 FF, .eq (.bool true), .eq (.bool true), .eq (.bool true)])
      case hm => kernel_rfl
      case hd => kernel_rfl
      case hb => kernel_rfl
      case hA =>
        intro vs
        simp only [puts, Act.put, List.setIfInBounds_toArray, List.set_cons_zero, List.set_cons_succ]
        exact rfl
      case hob =>
        refine Obs.cons _ _ _ _ _ _ ?o0 (Obs.cons _ _ _ _ _ _ ?o1 (Obs.cons _ _ _ _ _ _ ?o2 (Obs.cons _ _ _ _ _ _ ?o3 (Obs.cons _ _ _ _ _ _ ?o4 (Obs.cons _ _ _ _ _ _ ?o5 (Obs.cons _ _ _ _ _ _ ?o6 (Obs.cons _ _ _ _ _ _ ?o7 (Obs.cons _ _ _ _ _ _ ?o8 (Obs.cons _ _ _ _ _ _ ?o9 (Obs.cons _ _ _ _ _ _ ?o10 (Obs.cons _ _ _ _ _ _ ?o11 (Obs.cons _ _ _ _ _ _ ?o12 (Obs.cons _ _ _ _ _ _ ?o13 (Obs.cons _ _ _ _ _ _ ?o14 (Obs.cons _ _ _ _ _ _ ?o15 (Obs.cons _ _ _ _ _ _ ?o16 (Obs.cons _ _ _ _ _ _ ?o17 (Obs.cons _ _ _ _ _ _ ?o18 (Obs.cons _ _ _ _ _ _ ?o19 (Obs.cons _ _ _ _ _ _ ?o20 (Obs.cons _ _ _ _ _ _ ?o21 (Obs.cons _ _ _ _ _ _ ?o22 (Obs.cons _ _ _ _ _ _ ?o23 (Obs.cons _ _ _ _ _ _ ?o24 (Obs.nil _ _ _ _ _ _)))))))))))))))))))))))))
        case o0 =>
          intro vs W hw hd K hK
          obtain ⟨m0, m1⟩ := mcells2 (HMq.out W hw)
          go_simp
          exact hK.out _ _ rfl (Below.refl _ _)
        case o1 =>
          intro vs W hw hd K hK
          have h0 : vs 0 = .agg #[.slice ma mn mc, .int .i64 need] := hd 0 (by kernel_rfl)
          simp only [Nat.reduceAdd, h0] at hK ⊢
          go_simp
          refine (cR.out W hw).mono ?_
          rintro e W' ⟨rfl, hb'⟩
          exact hK.out _ _ rfl hb'
        case o2 =>
          intro vs W hw hd K hK
          have h1 : vs 1 = .int .i64 0 := hd 1 (by kernel_rfl)
          simp only [Nat.reduceAdd, h1] at hK ⊢
          go_simp
          exact hK.out _ _ rfl (Below.refl _ _)
        case o3 =>
          intro vs W hw hd K hK
          have h2 : vs 2 = .bool false := hd 2 (by kernel_rfl)
          simp only [Nat.reduceAdd, h2] at hK ⊢
          go_simp
          exact hK.out _ _ rfl (Below.refl _ _)
        case o4 =>
          intro vs W hw hd K hK
          have h3 : vs 3 = .bool false := hd 3 (by kernel_rfl)
          simp only [Nat.reduceAdd, h3] at hK ⊢
          go_simp
          exact hK.out _ _ rfl (Below.refl _ _)
        case o5 =>
          intro vs W hw hd K hK
          have h3 : vs 3 = .bool false := hd 3 (by kernel_rfl)
          have h4 : vs 4 = .slice al n cl := hd 4 (by kernel_rfl)
          simp only [Nat.reduceAdd, h3, h4] at hK ⊢
          go_simp
          refine (cA.out W hw).mono ?_
          rintro e W' ⟨rfl, hb'⟩
          exact hK.out _ _ rfl hb'
        case o6 =>
          intro vs W hw hd K hK
          have h3 : vs 3 = .bool false := hd 3 (by kernel_rfl)
          have h5 : vs 5 = .bool true := hd 5 (by kernel_rfl)
          simp only [Nat.reduceAdd, h3, h5] at hK ⊢
          go_simp
          exact hK.out _ _ rfl (Below.refl _ _)
        case o7 =>
          intro vs W hw hd K hK
          have h3 : vs 3 = .bool false := hd 3 (by kernel_rfl)
          have h6 : vs 6 = .bool false := hd 6 (by kernel_rfl)
          simp only [Nat.reduceAdd, h3, h6] at hK ⊢
          go_simp
          exact hK.out _ _ rfl (Below.refl _ _)
        case o8 =>
          intro vs W hw hd K hK
          have h7 : vs 7 = .bool false := hd 7 (by kernel_rfl)
          simp only [Nat.reduceAdd, h7] at hK ⊢
          go_simp
          exact hK.out _ _ rfl (Below.refl _ _)
        case o9 =>
          intro vs W hw hd K hK
          have h8 : vs 8 = .bool false := hd 8 (by kernel_rfl)
          obtain ⟨x0, x1, x2, x3, x4⟩ := rcells5 (HRq.out W hw)
          simp only [Nat.reduceAdd, h8] at hK ⊢
          go_simp
          exact hK.out _ _ rfl (Below.refl _ _)
        case o10 =>
          intro vs W hw hd K hK
          have h8 : vs 8 = .bool false := hd 8 (by kernel_rfl)
          have h9 : vs 9 = .agg #[.int .i64 rid, .int .i64 rver, .int .i64 rkind, .string lg, .slice ra rn rc] := hd 9 (by kernel_rfl)
          simp only [Nat.reduceAdd, h8, h9] at hK ⊢
          go_simp
          refine (cV.out W hw).mono ?_
          rintro e W' ⟨rfl, hb'⟩
          exact hK.out _ _ rfl hb'
        case o11 =>
          intro vs W hw hd K hK
          have h8 : vs 8 = .bool false := hd 8 (by kernel_rfl)
          have h10 : vs 10 = .bool true := hd 10 (by kernel_rfl)
          simp only [Nat.reduceAdd, h8, h10] at hK ⊢
          go_simp
          exact hK.out _ _ rfl (Below.refl _ _)
        case o12 =>
          intro vs W hw hd K hK
          have h8 : vs 8 = .bool false := hd 8 (by kernel_rfl)
          have h11 : vs 11 = .bool false := hd 11 (by kernel_rfl)
          simp only [Nat.reduceAdd, h8, h11] at hK ⊢
          go_simp
          exact hK.out _ _ rfl (Below.refl _ _)
        case o13 =>
          intro vs W hw hd K hK
          have h12 : vs 12 = .bool false := hd 12 (by kernel_rfl)
          simp only [Nat.reduceAdd, h12] at hK ⊢
          go_simp
          exact hK.out _ _ rfl (Below.refl _ _)
        case o14 =>
          intro vs W hw hd K hK
          have h13 : vs 13 = .bool false := hd 13 (by kernel_rfl)
          obtain ⟨m0, m1⟩ := mcells2 (HMq.out W hw)
          simp only [Nat.reduceAdd, h13] at hK ⊢
          go_simp
          exact hK.out _ _ rfl (Below.refl _ _)
        case o15 =>
          intro vs W hw hd K hK
          have h13 : vs 13 = .bool false := hd 13 (by kernel_rfl)
          simp only [Nat.reduceAdd, h13] at hK ⊢
          go_simp
          exact hK.out _ _ rfl (Below.refl _ _)
        case o16 =>
          intro vs W hw hd K hK
          have h13 : vs 13 = .bool false := hd 13 (by kernel_rfl)
          obtain ⟨x0, x1, x2, x3, x4⟩ := rcells5 (HRq.out W hw)
          simp only [Nat.reduceAdd, h13] at hK ⊢
          go_simp
          exact hK.out _ _ rfl (Below.refl _ _)
        case o17 =>
          intro vs W hw hd K hK
          have h13 : vs 13 = .bool false := hd 13 (by kernel_rfl)
          have h14 : vs 14 = .agg #[.slice ma mn mc, .int .i64 need] := hd 14 (by kernel_rfl)
          have h15 : vs 15 = .slice al n cl := hd 15 (by kernel_rfl)
          have h16 : vs 16 = .agg #[.int .i64 rid, .int .i64 rver, .int .i64 rkind, .string lg, .slice ra rn rc] := hd 16 (by kernel_rfl)
          simp only [Nat.reduceAdd, h13, h14, h15, h16] at hK ⊢
          go_simp
          refine (cP.out W hw).mono ?_
          rintro e W' ⟨v', rfl, hil, hb'⟩
          exact hK.out _ _ hil hb'
        case o18 =>
          intro vs W hw hd K hK
          have h13 : vs 13 = .bool false := hd 13 (by kernel_rfl)
          obtain ⟨m0, m1⟩ := mcells2 (HMq.out W hw)
          simp only [Nat.reduceAdd, h13] at hK ⊢
          go_simp
          exact hK.out _ _ rfl (Below.refl _ _)
        case o19 =>
          intro vs W hw hd K hK
          have h13 : vs 13 = .bool false := hd 13 (by kernel_rfl)
          simp only [Nat.reduceAdd, h13] at hK ⊢
          go_simp
          exact hK.out _ _ rfl (Below.refl _ _)
        case o20 =>
          intro vs W hw hd K hK
          have h13 : vs 13 = .bool false := hd 13 (by kernel_rfl)
          obtain ⟨x0, x1, x2, x3, x4⟩ := rcells5 (HRq.out W hw)
          simp only [Nat.reduceAdd, h13] at hK ⊢
          go_simp
          exact hK.out _ _ rfl (Below.refl _ _)
        case o21 =>
          intro vs W hw hd K hK
          have h13 : vs 13 = .bool false := hd 13 (by kernel_rfl)
          have h18 : vs 18 = .agg #[.slice ma mn mc, .int .i64 need] := hd 18 (by kernel_rfl)
          have h19 : vs 19 = .slice al n cl := hd 19 (by kernel_rfl)
          have h20 : vs 20 = .agg #[.int .i64 rid, .int .i64 rver, .int .i64 rkind, .string lg, .slice ra rn rc] := hd 20 (by kernel_rfl)
          simp only [Nat.reduceAdd, h13, h18, h19, h20] at hK ⊢
          go_simp
          refine (cQ.out W hw).mono ?_
          rintro e W' ⟨v', rfl, hil, hb'⟩
          exact hK.out _ _ hil hb'
        case o22 =>
          intro vs W hw hd K hK
          have h13 : vs 13 = .bool false := hd 13 (by kernel_rfl)
          have q1 : IL (vs 17) FF W := hd 17 (by kernel_rfl)
          have q2 : IL (vs 21) FF W := hd 21 (by kernel_rfl)
          simp only [Nat.reduceAdd, h13] at hK ⊢
          go_simp
          refine (cI.out (vs 17) (vs 21) W q1 q2).mono ?_
          rintro e W' ⟨rfl, hb'⟩
          exact hK.out _ _ rfl hb'
        case o23 =>
          intro vs W hw hd K hK
          have h13 : vs 13 = .bool false := hd 13 (by kernel_rfl)
          have h22 : vs 22 = .bool true := hd 22 (by kernel_rfl)
          simp only [Nat.reduceAdd, h13, h22] at hK ⊢
          go_simp
          exact hK.out _ _ rfl (Below.refl _ _)
        case o24 =>
          intro vs W hw hd K hK
          have h23 : vs 23 = .bool true := hd 23 (by kernel_rfl)
          simp only [Nat.reduceAdd, h23] at hK ⊢
          go_simp
          exact hK.out _ _ rfl (Below.refl _ _)
      case hfin =>
        intro vs W hw hd
        have h24 : vs 24 = .bool true := hd 24 (by decide)
        simp only [Nat.reduceAdd, h24]
        have HF := Lib.hid (HBw.out W hw)
        clear hd hw
        go_wp2
        first | exact ⟨rfl, HF.out⟩ | (go_ret; exact ⟨rfl, HF.out⟩)
  · have hrb : (rr != 0) = true := by simpa using hr
    have hrf : decide (rr = 0) = false := by simpa using hr
    clear cPx cQx cI0 cA cV
    apply wp_region_inv (V := [.eq (.agg #[.slice ma mn mc, .int .i64 need]), .eq (.int .i64 rr), .eq (.bool true), .eq (.bool true), .any, .any, .any, .eq (.bool true), .eq (.bool true), .any, .any, .any, .eq (.bool true), .eq (.bool true), .any, .any, .any, .any, .any, .any, .any, .any, .any, .eq (.bool true), .eq (.bool true)])
    case hm => kernel_rfl
    case hd => kernel_rfl
    case hb => kernel_rfl
    case hA =>
      intro vs
      simp only [puts, Act.put, List.setIfInBounds_toArray, List.set_cons_zero, List.set_cons_succ]
      exact rfl
    case hob =>
      refine Obs.cons _ _ _ _ _ _ ?o0 (Obs.cons _ _ _ _ _ _ ?o1 (Obs.cons _ _ _ _ _ _ ?o2 (Obs.cons _ _ _ _ _ _ ?o3 (Obs.cons _ _ _ _ _ _ ?o4 (Obs.cons _ _ _ _ _ _ ?o5 (Obs.cons _ _ _ _ _ _ ?o6 (Obs.cons _ _ _ _ _ _ ?o7 (Obs.cons _ _ _ _ _ _ ?o8 (Obs.cons _ _ _ _ _ _ ?o9 (Obs.cons _ _ _ _ _ _ ?o10 (Obs.cons _ _ _ _ _ _ ?o11 (Obs.cons _ _ _ _ _ _ ?o12 (Obs.cons _ _ _ _ _ _ ?o13 (Obs.cons _ _ _ _ _ _ ?o14 (Obs.cons _ _ _ _ _ _ ?o15 (Obs.cons _ _ _ _ _ _ ?o16 (Obs.cons _ _ _ _ _ _ ?o17 (Obs.cons _ _ _ _ _ _ ?o18 (Obs.cons _ _ _ _ _ _ ?o19 (Obs.cons _ _ _ _ _ _ ?o20 (Obs.cons _ _ _ _ _ _ ?o21 (Obs.cons _ _ _ _ _ _ ?o22 (Obs.cons _ _ _ _ _ _ ?o23 (Obs.cons _ _ _ _ _ _ ?o24 (Obs.nil _ _ _ _ _ _)))))))))))))))))))))))))
      case o0 =>
        intro vs W hw hd K hK
        obtain ⟨m0, m1⟩ := mcells2 (HMq.out W hw)
        go_simp
        exact hK.out _ _ rfl (Below.refl _ _)
      case o1 =>
        intro vs W hw hd K hK
        have h0 : vs 0 = .agg #[.slice ma mn mc, .int .i64 need] := hd 0 (by kernel_rfl)
        simp only [Nat.reduceAdd, h0] at hK ⊢
        go_simp
        refine (cR.out W hw).mono ?_
        rintro e W' ⟨rfl, hb'⟩
        exact hK.out _ _ rfl hb'
      case o2 =>
        intro vs W hw hd K hK
        have h1 : vs 1 = .int .i64 rr := hd 1 (by kernel_rfl)
        simp only [Nat.reduceAdd, h1] at hK ⊢
        go_simp
        exact hK.out _ _ rfl (Below.refl _ _)
      case o3 =>
        intro vs W hw hd K hK
        have h2 : vs 2 = .bool true := hd 2 (by kernel_rfl)
        simp only [Nat.reduceAdd, h2] at hK ⊢
        go_simp
        exact hK.out _ _ rfl (Below.refl _ _)
      case o4 =>
        intro vs W hw hd K hK
        have h3 : vs 3 = .bool true := hd 3 (by kernel_rfl)
        simp only [Nat.reduceAdd, h3] at hK ⊢
        go_simp
        exact hK.out _ _ trivial (Below.refl _ _)
      case o5 =>
        intro vs W hw hd K hK
        have h3 : vs 3 = .bool true := hd 3 (by kernel_rfl)
        simp only [Nat.reduceAdd, h3] at hK ⊢
        go_simp
        exact hK.out _ _ trivial (Below.refl _ _)
      case o6 =>
        intro vs W hw hd K hK
        have h3 : vs 3 = .bool true := hd 3 (by kernel_rfl)
        simp only [Nat.reduceAdd, h3] at hK ⊢
        go_simp
        exact hK.out _ _ trivial (Below.refl _ _)
      case o7 =>
        intro vs W hw hd K hK
        have h3 : vs 3 = .bool true := hd 3 (by kernel_rfl)
        simp only [Nat.reduceAdd, h3] at hK ⊢
        go_simp
        exact hK.out _ _ rfl (Below.refl _ _)
      case o8 =>
        intro vs W hw hd K hK
        have h7 : vs 7 = .bool true := hd 7 (by kernel_rfl)
        simp only [Nat.reduceAdd, h7] at hK ⊢
        go_simp
        exact hK.out _ _ rfl (Below.refl _ _)
      case o9 =>
        intro vs W hw hd K hK
        have h8 : vs 8 = .bool true := hd 8 (by kernel_rfl)
        simp only [Nat.reduceAdd, h8] at hK ⊢
        go_simp
        exact hK.out _ _ trivial (Below.refl _ _)
      case o10 =>
        intro vs W hw hd K hK
        have h8 : vs 8 = .bool true := hd 8 (by kernel_rfl)
        simp only [Nat.reduceAdd, h8] at hK ⊢
        go_simp
        exact hK.out _ _ trivial (Below.refl _ _)
      case o11 =>
        intro vs W hw hd K hK
        have h8 : vs 8 = .bool true := hd 8 (by kernel_rfl)
        simp only [Nat.reduceAdd, h8] at hK ⊢
        go_simp
        exact hK.out _ _ trivial (Below.refl _ _)
      case o12 =>
        intro vs W hw hd K hK
        have h8 : vs 8 = .bool true := hd 8 (by kernel_rfl)
        simp only [Nat.reduceAdd, h8] at hK ⊢
        go_simp
        exact hK.out _ _ rfl (Below.refl _ _)
      case o13 =>
        intro vs W hw hd K hK
        have h12 : vs 12 = .bool true := hd 12 (by kernel_rfl)
        simp only [Nat.reduceAdd, h12] at hK ⊢
        go_simp
        exact hK.out _ _ rfl (Below.refl _ _)
      case o14 =>
        intro vs W hw hd K hK
        have h13 : vs 13 = .bool true := hd 13 (by kernel_rfl)
        simp only [Nat.reduceAdd, h13] at hK ⊢
        go_simp
        exact hK.out _ _ trivial (Below.refl _ _)
      case o15 =>
        intro vs W hw hd K hK
        have h13 : vs 13 = .bool true := hd 13 (by kernel_rfl)
        simp only [Nat.reduceAdd, h13] at hK ⊢
        go_simp
        exact hK.out _ _ trivial (Below.refl _ _)
      case o16 =>
        intro vs W hw hd K hK
        have h13 : vs 13 = .bool true := hd 13 (by kernel_rfl)
        simp only [Nat.reduceAdd, h13] at hK ⊢
        go_simp
        exact hK.out _ _ trivial (Below.refl _ _)
      case o17 =>
        intro vs W hw hd K hK
        have h13 : vs 13 = .bool true := hd 13 (by kernel_rfl)
        simp only [Nat.reduceAdd, h13] at hK ⊢
        go_simp
        exact hK.out _ _ trivial (Below.refl _ _)
      case o18 =>
        intro vs W hw hd K hK
        have h13 : vs 13 = .bool true := hd 13 (by kernel_rfl)
        simp only [Nat.reduceAdd, h13] at hK ⊢
        go_simp
        exact hK.out _ _ trivial (Below.refl _ _)
      case o19 =>
        intro vs W hw hd K hK
        have h13 : vs 13 = .bool true := hd 13 (by kernel_rfl)
        simp only [Nat.reduceAdd, h13] at hK ⊢
        go_simp
        exact hK.out _ _ trivial (Below.refl _ _)
      case o20 =>
        intro vs W hw hd K hK
        have h13 : vs 13 = .bool true := hd 13 (by kernel_rfl)
        simp only [Nat.reduceAdd, h13] at hK ⊢
        go_simp
        exact hK.out _ _ trivial (Below.refl _ _)
      case o21 =>
        intro vs W hw hd K hK
        have h13 : vs 13 = .bool true := hd 13 (by kernel_rfl)
        simp only [Nat.reduceAdd, h13] at hK ⊢
        go_simp
        exact hK.out _ _ trivial (Below.refl _ _)
      case o22 =>
        intro vs W hw hd K hK
        have h13 : vs 13 = .bool true := hd 13 (by kernel_rfl)
        simp only [Nat.reduceAdd, h13] at hK ⊢
        go_simp
        exact hK.out _ _ trivial (Below.refl _ _)
      case o23 =>
        intro vs W hw hd K hK
        have h13 : vs 13 = .bool true := hd 13 (by kernel_rfl)
        simp only [Nat.reduceAdd, h13] at hK ⊢
        go_simp
        exact hK.out _ _ rfl (Below.refl _ _)
      case o24 =>
        intro vs W hw hd K hK
        have h23 : vs 23 = .bool true := hd 23 (by kernel_rfl)
        simp only [Nat.reduceAdd, h23] at hK ⊢
        go_simp
        exact hK.out _ _ rfl (Below.refl _ _)
    case hfin =>
      intro vs W hw hd
      have h24 : vs 24 = .bool true := hd 24 (by decide)
      simp only [Nat.reduceAdd, h24]
      have HF := Lib.hid (HBw.out W hw)
      clear hd hw
      go_wp2
      first | exact ⟨rfl, HF.out⟩ | (go_ret; exact ⟨rfl, HF.out⟩)
end

end Go.Proofs.YtfjfpefpdlecbaaGreatDoor
