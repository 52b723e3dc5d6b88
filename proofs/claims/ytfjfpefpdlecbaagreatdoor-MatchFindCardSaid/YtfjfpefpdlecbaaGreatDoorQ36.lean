/- Merged: EqTwo, R15L. -/
import Derived.Test.YtfjfpefpdlecbaaGreatDoorQ03
import Derived.Laws.StructEq
import Derived.Test.YtfjfpefpdlecbaaGreatDoorQ14
namespace Go.Proofs.YtfjfpefpdlecbaaGreatDoor

section
open Go Go.RowKit
theorem run_equalIn_two {P : Program} (w : World) (d : Nat) (t e : TypeId) (k k' : IntKind) (x0 x1 y0 y1 : Int) (ht : P.underlying t = some (.array 2 e)) (he : P.underlying e = some (.int k')) (i : TypeInfo) (hi : P.info? e = some i) (hs : i.size = 1) :
    (Op.equalIn (d + 2) t (.agg #[.int k x0, .int k x1]) (.agg #[.int k y0, .int k y1])).run P w = .ok (x0 == y0 && x1 == y1) w := by
  have h : (Op.equalIn (d + 2) t (.agg #[.int k x0, .int k x1]) (.agg #[.int k y0, .int k y1])).run P w = (Op.equalIn (d + 1 + 1) t (.agg #[.int k x0, .int k x1]) (.agg #[.int k y0, .int k y1])).run P w := rfl
  have hag : ∀ w, (isAgg e).run P w = .ok false w := fun w => by simp [isAgg, run_underlying he]
  have heq : ∀ w a b, (Op.equalIn (d + 1) e (.int k a) (.int k b)).run P w = .ok (a == b) w := fun w a b => run_equalIn_int w d e k k' a b he
  rw [h, Op.equalIn]
  simp only [Sem.run_bind, run_underlying ht, Result.andThen_ok]
  simp [sizeOf, typeInfo, part, hi, hs, Std.Legacy.Range.forIn_eq_forIn_range']
  rw [show List.range' 0 2 = [0, 1] from rfl]
  by_cases h0 : x0 = y0
  · by_cases h1 : x1 = y1
    · simp [hag, heq, h0, h1]
    · simp [hag, heq, h0, h1]
  · simp [hag, heq, h0]
theorem infoInt15 : (Tryz.prog.info? 3).map (fun i => i.size) = some 1 := by kernel_rfl
theorem equal_two (w : World) (x0 x1 y0 y1 : Int) : (Op.equalIn 10000 59 (.agg #[.int .i64 x0, .int .i64 x1]) (.agg #[.int .i64 y0, .int .i64 y1])).run Tryz.prog w = .ok (x0 == y0 && x1 == y1) w := by
  obtain ⟨i0, hi, hs⟩ := Option.map_eq_some_iff.1 infoInt15
  exact run_equalIn_two w 9998 _ 3 .i64 .i64 x0 x1 y0 y1 Tryz.underlying59 Tryz.underlying3 i0 hi hs
end

section
open Go.RowKit Go.PlainAid
/-- A slice of pairs. -/
def PL (v : Value) (L : List (Int × Int)) (w : World) : Prop :=
  ∃ a cap, v = .slice a L.length cap ∧ L.length ≤ cap ∧ cap ≤ maxLen ∧ (a = none → cap = 0) ∧ ∀ i, i < L.length → ∃ g o, a = some ⟨g, o, none⟩ ∧ g < w.heap.size ∧
    w.cell? ⟨g, o + i * 2, none⟩ = some (.int .i64 (L.getD i (0, 0)).1) ∧ w.cell? ⟨g, o + i * 2 + 1, none⟩ = some (.int .i64 (L.getD i (0, 0)).2)
theorem PL.after {v : Value} {L : List (Int × Int)} {w w' : World} (h : PL v L w) (hb : Below w.heap.size w w') : PL v L w' := by
  obtain ⟨a, cap, rfl, hc, hm, hn, hx⟩ := h
  refine ⟨a, cap, rfl, hc, hm, hn, fun i hi => ?_⟩
  obtain ⟨g, o, rfl, hg, h0, h1⟩ := hx i hi
  exact ⟨g, o, rfl, Nat.lt_of_lt_of_le hg hb.size, (hb.cell (p := ⟨g, o + i * 2, none⟩) hg).trans h0, (hb.cell (p := ⟨g, o + i * 2 + 1, none⟩) hg).trans h1⟩
theorem PL.opened {v : Value} {A : List (Int × Int)} {w : World} (h : PL v A w) : ∃ a cap g o, v = .slice a A.length cap ∧ A.length ≤ cap ∧ cap ≤ maxLen ∧ (0 < A.length → a = some ⟨g, o, none⟩) ∧ ∀ W, Below w.heap.size w W → ∀ i, i < A.length →
    W.cell? ⟨g, o + i * 2, none⟩ = some (.int .i64 (A.getD i (0, 0)).1) ∧ W.cell? ⟨g, o + i * 2 + 1, none⟩ = some (.int .i64 (A.getD i (0, 0)).2) := by
  obtain ⟨a, cap, rfl, hc, hm, hn, hx⟩ := h
  by_cases h0 : 0 < A.length
  · obtain ⟨g, o, rfl, -⟩ := hx 0 h0
    refine ⟨_, cap, g, o, rfl, hc, hm, fun _ => rfl, fun W hb i hi => ?_⟩
    obtain ⟨g', o', e, hg', h0, h1⟩ := hx i hi
    obtain ⟨rfl, rfl, -⟩ := Addr.mk.inj (Option.some.inj e)
    exact ⟨(hb.cell (p := ⟨_, _, none⟩) hg').trans h0, (hb.cell (p := ⟨_, _, none⟩) hg').trans h1⟩
  · exact ⟨a, cap, 0, 0, rfl, hc, hm, fun h => absurd h h0, fun W hb i hi => by omega⟩
set_option maxHeartbeats 16000000 in
set_option maxRecDepth 100000 in
theorem refSamePairs_any (A B : List (Int × Int)) (va vb : Value) (w : World) (hA : PL va A w) (hB : PL vb B w) (r : Bool) (hr : decide (A = B) = r) :
    Calls Tryz.prog 25 #[va, vb] w fun e w' => e = .returned (.bool r) ∧ Below w.heap.size w w' := by
  obtain ⟨a, ca, g, o, rfl, hca, hma, hga, hxa⟩ := hA.opened
  obtain ⟨b, cb2, g2, o2, rfl, hcb, hmb, hgb, hxb⟩ := hB.opened
  unfold maxLen at hma hmb
  have HLen := Lib.hid (fun (h : A.length ≠ B.length) => show r = false from by
    rw [← hr]
    exact decide_eq_false fun g => h (by rw [g]))
  have HNo := Lib.hid (fun i (hi : i < A.length) (h : A.getD i (0, 0) ≠ B.getD i (0, 0)) => show r = false from by
    rw [← hr]
    exact decide_eq_false fun g => h (by rw [g]))
  have HYes := Lib.hid (fun (hl : A.length = B.length) (h : ∀ i, i < A.length → A.getD i (0, 0) = B.getD i (0, 0)) => show r = true from by
    rw [← hr]
    refine decide_eq_true (List.ext_getElem hl fun i h1 h2 => ?_)
    have := h i h1
    rwa [List.getD_eq_getElem?_getD, List.getD_eq_getElem?_getD, List.getElem?_eq_getElem h1, List.getElem?_eq_getElem h2] at this)
  have HR := Lib.hid (Below.refl w.heap.size w)
  generalize hn : A.length = n at *
  generalize hm : B.length = m at *
  have HXA := Lib.hid hxa
  have HXB := Lib.hid hxb
  clear hn hm hA hB hr hxa hxb
  by_cases hnm : n = m
  · subst hnm
    have HY := Lib.hid (HYes.out rfl)
    clear HLen HYes
    go_enter Tryz.func25, Tryz.ntmps25
    go_wp2
    go_loopw [5] (fun s5 wr => ∃ i : Nat, s5 = .int .i64 (i : Int) ∧ i ≤ n ∧ RowKit.Hid (∀ j, j < i → A.getD j (0, 0) = B.getD j (0, 0)) ∧ RowKit.Hid (Below w.heap.size w wr)) (fun s5 _ => n - (intOf s5).toNat)
    case atStart => exact ⟨0, rfl, Nat.zero_le _, (fun a ha => by omega), HR.out⟩
    case round =>
      obtain ⟨i, rfl, hi, HI, HB⟩ := hrel
      clear HR
      have i1 : (0 : Int) ≤ (i : Int) := by omega
      by_cases hin : i < n
      · have i2 : (i : Int) < (n : Int) := by omega
        obtain rfl := hga (by omega)
        obtain rfl := hgb (by omega)
        obtain ⟨wq, hwq⟩ : ∃ wq, wr = wq := ⟨_, rfl⟩
        rw [hwq] at HB ⊢
        clear hwq
        have HCa := Lib.hid (fun (W : World) (h : Below wq.heap.size wq W) => HXA.out W (HB.out.trans (h.mono HB.out.size)) i hin)
        have HCb := Lib.hid (fun (W : World) (h : Below wq.heap.size wq W) => HXB.out W (HB.out.trans (h.mono HB.out.size)) i hin)
        have HBa := Lib.hid (fun (W : World) (h : Below wq.heap.size wq W) => HB.out.trans (h.mono HB.out.size))
        obtain ⟨⟨x0, x1⟩, hx⟩ : ∃ x, A.getD i (0, 0) = x := ⟨_, rfl⟩
        obtain ⟨⟨y0, y1⟩, hy⟩ : ∃ y, B.getD i (0, 0) = y := ⟨_, rfl⟩
        have HNi := Lib.hid (HNo.out i hin)
        rw [hx, hy] at HNi
        rw [hx] at HCa
        rw [hy] at HCb
        have HI2 : RowKit.Hid ((x0, x1) = (y0, y1) → ∀ j, j < i + 1 → A.getD j (0, 0) = B.getD j (0, 0)) := by
          intro h0 j hj
          rcases Nat.lt_or_ge j i with h | h
          · exact HI.out j h
          · rw [show j = i by omega, hx, hy]; exact h0
        clear hx hy HI HNo HB
        by_cases hxy : x0 = y0 ∧ x1 = y1
        · obtain ⟨rfl, rfl⟩ := hxy
          have HI3 := Lib.hid (HI2.out rfl)
          clear HI2 HNi
          have HEqv : RowKit.Hid ((x0 == x0 && x1 == x1) = true) := by unfold RowKit.Hid; simp
          go_upto_region 6 with fail
          apply wp_region_inv (V := [.eq (.slice (some ⟨g, o, none⟩) n ca), .eq (.int .i64 (i : Int)), .eq (.pointer (some ⟨g, o + i * 2, none⟩)), .eq (.agg #[.int .i64 x0, .int .i64 x1]), .eq (.slice (some ⟨g2, o2, none⟩) n cb2), .eq (.int .i64 (i : Int)), .eq (.pointer (some ⟨g2, o2 + i * 2, none⟩)), .eq (.agg #[.int .i64 x0, .int .i64 x1]), .eq (.bool false)])
          case hm => kernel_rfl
          case hd => kernel_rfl
          case hb => kernel_rfl
          case hA =>
            intro vs
            simp only [puts, Act.put, List.setIfInBounds_toArray, List.set_cons_zero, List.set_cons_succ]
            exact rfl
          case hob =>
            refine Obs.cons _ _ _ _ _ _ ?o0 (Obs.cons _ _ _ _ _ _ ?o1 (Obs.cons _ _ _ _ _ _ ?o2 (Obs.cons _ _ _ _ _ _ ?o3 (Obs.cons _ _ _ _ _ _ ?o4 (Obs.cons _ _ _ _ _ _ ?o5 (Obs.cons _ _ _ _ _ _ ?o6 (Obs.cons _ _ _ _ _ _ ?o7 (Obs.cons _ _ _ _ _ _ ?o8 (Obs.nil _ _ _ _ _ _)))))))))
            case o0 =>
              intro vs W hw hd K hK
              go_simp
              exact hK.out _ _ rfl (Below.refl _ _)
            case o1 =>
              intro vs W hw hd K hK
              go_simp
              exact hK.out _ _ rfl (Below.refl _ _)
            case o2 =>
              intro vs W hw hd K hK
              have h0 : vs 0 = .slice (some ⟨g, o, none⟩) n ca := hd 0 (by kernel_rfl)
              have h1 : vs 1 = .int .i64 (i : Int) := hd 1 (by kernel_rfl)
              simp only [Nat.reduceAdd, h0, h1] at hK ⊢
              go_simp
              exact hK.out _ _ rfl (Below.refl _ _)
            case o3 =>
              intro vs W hw hd K hK
              have h2 : vs 2 = .pointer (some ⟨g, o + i * 2, none⟩) := hd 2 (by kernel_rfl)
              obtain ⟨c1, c2⟩ := HCa.out W hw
              simp only [Nat.reduceAdd, h2] at hK ⊢
              go_simp
              exact hK.out _ _ rfl (Below.refl _ _)
            case o4 =>
              intro vs W hw hd K hK
              go_simp
              exact hK.out _ _ rfl (Below.refl _ _)
            case o5 =>
              intro vs W hw hd K hK
              go_simp
              exact hK.out _ _ rfl (Below.refl _ _)
            case o6 =>
              intro vs W hw hd K hK
              have h4 : vs 4 = .slice (some ⟨g2, o2, none⟩) n cb2 := hd 4 (by kernel_rfl)
              have h5 : vs 5 = .int .i64 (i : Int) := hd 5 (by kernel_rfl)
              simp only [Nat.reduceAdd, h4, h5] at hK ⊢
              go_simp
              exact hK.out _ _ rfl (Below.refl _ _)
            case o7 =>
              intro vs W hw hd K hK
              have h6 : vs 6 = .pointer (some ⟨g2, o2 + i * 2, none⟩) := hd 6 (by kernel_rfl)
              obtain ⟨d1, d2⟩ := HCb.out W hw
              simp only [Nat.reduceAdd, h6] at hK ⊢
              go_simp
              exact hK.out _ _ rfl (Below.refl _ _)
            case o8 =>
              intro vs W hw hd K hK
              have h3 : vs 3 = .agg #[.int .i64 x0, .int .i64 x1] := hd 3 (by kernel_rfl)
              have h7 : vs 7 = .agg #[.int .i64 x0, .int .i64 x1] := hd 7 (by kernel_rfl)
              simp only [Nat.reduceAdd, h3, h7] at hK ⊢
              go_simp
              rw [equal_two W, HEqv.out]
              go_simp
              exact hK.out _ _ rfl (Below.refl _ _)
          case hfin =>
            intro vs W hw hd
            have h8 : vs 8 = .bool false := hd 8 (by decide)
            simp only [Nat.reduceAdd, h8]
            have HBn := Lib.hid (HBa.out W hw)
            clear hd h8 hw
            go_wp2
            go_roundw
            case rel => exact ⟨i + 1, by go_num, by omega, HI3.out, HBn.out⟩
            case measure => simp [intOf]; omega
        · have hf := HNi.out (fun h => hxy ⟨(Prod.mk.inj h).1, (Prod.mk.inj h).2⟩)
          subst hf
          clear HI2 HNi
          have b1 : (x0 == y0) = false ∨ (x0 == y0) = true ∧ (x1 == y1) = false := by
            by_cases h : x0 = y0
            · exact .inr ⟨by simpa using h, by simpa using fun g => hxy ⟨h, g⟩⟩
            · exact .inl (by simpa using h)
          have HEqv : RowKit.Hid ((x0 == y0 && x1 == y1) = false) := by
            unfold RowKit.Hid
            rcases b1 with b1 | ⟨b1, b2⟩
            · rw [b1, Bool.false_and]
            · rw [b1, b2, Bool.true_and]
          clear hxy b1
          all_goals
            go_upto_region 6 with fail
            apply wp_region_inv (V := [.eq (.slice (some ⟨g, o, none⟩) n ca), .eq (.int .i64 (i : Int)), .eq (.pointer (some ⟨g, o + i * 2, none⟩)), .eq (.agg #[.int .i64 x0, .int .i64 x1]), .eq (.slice (some ⟨g2, o2, none⟩) n cb2), .eq (.int .i64 (i : Int)), .eq (.pointer (some ⟨g2, o2 + i * 2, none⟩)), .eq (.agg #[.int .i64 y0, .int .i64 y1]), .eq (.bool true)])
            case hm => kernel_rfl
            case hd => kernel_rfl
            case hb => kernel_rfl
            case hA =>
              intro vs
              simp only [puts, Act.put, List.setIfInBounds_toArray, List.set_cons_zero, List.set_cons_succ]
              exact rfl
            case hob =>
              refine Obs.cons _ _ _ _ _ _ ?o0 (Obs.cons _ _ _ _ _ _ ?o1 (Obs.cons _ _ _ _ _ _ ?o2 (Obs.cons _ _ _ _ _ _ ?o3 (Obs.cons _ _ _ _ _ _ ?o4 (Obs.cons _ _ _ _ _ _ ?o5 (Obs.cons _ _ _ _ _ _ ?o6 (Obs.cons _ _ _ _ _ _ ?o7 (Obs.cons _ _ _ _ _ _ ?o8 (Obs.nil _ _ _ _ _ _)))))))))
              case o0 =>
                intro vs W hw hd K hK
                go_simp
                exact hK.out _ _ rfl (Below.refl _ _)
              case o1 =>
                intro vs W hw hd K hK
                go_simp
                exact hK.out _ _ rfl (Below.refl _ _)
              case o2 =>
                intro vs W hw hd K hK
                have h0 : vs 0 = .slice (some ⟨g, o, none⟩) n ca := hd 0 (by kernel_rfl)
                have h1 : vs 1 = .int .i64 (i : Int) := hd 1 (by kernel_rfl)
                simp only [Nat.reduceAdd, h0, h1] at hK ⊢
                go_simp
                exact hK.out _ _ rfl (Below.refl _ _)
              case o3 =>
                intro vs W hw hd K hK
                have h2 : vs 2 = .pointer (some ⟨g, o + i * 2, none⟩) := hd 2 (by kernel_rfl)
                obtain ⟨c1, c2⟩ := HCa.out W hw
                simp only [Nat.reduceAdd, h2] at hK ⊢
                go_simp
                exact hK.out _ _ rfl (Below.refl _ _)
              case o4 =>
                intro vs W hw hd K hK
                go_simp
                exact hK.out _ _ rfl (Below.refl _ _)
              case o5 =>
                intro vs W hw hd K hK
                go_simp
                exact hK.out _ _ rfl (Below.refl _ _)
              case o6 =>
                intro vs W hw hd K hK
                have h4 : vs 4 = .slice (some ⟨g2, o2, none⟩) n cb2 := hd 4 (by kernel_rfl)
                have h5 : vs 5 = .int .i64 (i : Int) := hd 5 (by kernel_rfl)
                simp only [Nat.reduceAdd, h4, h5] at hK ⊢
                go_simp
                exact hK.out _ _ rfl (Below.refl _ _)
              case o7 =>
                intro vs W hw hd K hK
                have h6 : vs 6 = .pointer (some ⟨g2, o2 + i * 2, none⟩) := hd 6 (by kernel_rfl)
                obtain ⟨d1, d2⟩ := HCb.out W hw
                simp only [Nat.reduceAdd, h6] at hK ⊢
                go_simp
                exact hK.out _ _ rfl (Below.refl _ _)
              case o8 =>
                intro vs W hw hd K hK
                have h3 : vs 3 = .agg #[.int .i64 x0, .int .i64 x1] := hd 3 (by kernel_rfl)
                have h7 : vs 7 = .agg #[.int .i64 y0, .int .i64 y1] := hd 7 (by kernel_rfl)
                simp only [Nat.reduceAdd, h3, h7] at hK ⊢
                go_simp
                rw [equal_two W, HEqv.out]
                go_simp
                exact hK.out _ _ rfl (Below.refl _ _)
            case hfin =>
              intro vs W hw hd
              have h8 : vs 8 = .bool true := hd 8 (by decide)
              simp only [Nat.reduceAdd, h8]
              have HBn := Lib.hid (HBa.out W hw)
              clear hd h8 hw
              go_wp2
              first | exact ⟨rfl, HBn.out⟩ | (go_ret; exact ⟨rfl, HBn.out⟩)
      · obtain rfl : i = n := by omega
        have hr := HY.out HI.out
        subst hr
        clear HI HY
        go_wp2
        first | exact ⟨rfl, HB.out⟩ | (go_ret; exact ⟨rfl, HB.out⟩)
  · have hf := HLen.out hnm
    subst hf
    have t : ((n : Int) != (m : Int)) = true := by simp; omega
    clear hnm HYes HLen HNo
    go_enter Tryz.func25, Tryz.ntmps25
    go_wp2
    first | exact ⟨rfl, HR.out⟩ | (go_ret; exact ⟨rfl, HR.out⟩)
end

end Go.Proofs.YtfjfpefpdlecbaaGreatDoor
