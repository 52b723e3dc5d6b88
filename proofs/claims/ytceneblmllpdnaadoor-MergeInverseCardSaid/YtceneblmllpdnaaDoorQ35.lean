/- Merged: R16B. -/
import Derived.Test.YtceneblmllpdnaaDoorQ08
import Derived.Test.YtceneblmllpdnaaDoorQ10
import Derived.Test.YtceneblmllpdnaaDoorQ03
import Derived.Deep.CutBlock
import Derived.Deep.DeepCutAuto
import Derived.Deep.RegionLaw
namespace Go.Proofs.YtceneblmllpdnaaDoor

section
open Go.RowKit Go.PlainAid
set_option maxHeartbeats 8000000 in
theorem refTagged16_any (l : List Fld) (v : Value) (t : List UInt8) (w : World) (hv : FL v l w) (r : Bool) (hr : tagdF l t = r) :
    Calls Tryd.prog 33 #[v, .string (S t)] w fun e w' => e = .returned (.bool r) ∧ Below w.heap.size w w' := by
  obtain ⟨a, ca, g, o, us, rfl, hca, hm, hga, hxa⟩ := hv.open16
  have HYes := Lib.hid (fun i (hi : i < l.length) (e : (l.getD i fd0).tag = t) => show r = true from by
    rw [← hr, tagdF_iff]
    refine ⟨l.getD i fd0, ?_, e⟩
    rw [List.getD_eq_getElem?_getD, List.getElem?_eq_getElem hi]
    exact List.getElem_mem hi)
  have HNo := Lib.hid (fun (h : ∀ i, i < l.length → (l.getD i fd0).tag ≠ t) => show r = false from by
    rw [← hr]
    cases e : tagdF l t with
    | false => rfl
    | true =>
      obtain ⟨x, hx, he⟩ := (tagdF_iff l t).1 e
      obtain ⟨i, hi, rfl⟩ := List.getElem_of_mem hx
      refine absurd ?_ (h i hi)
      rw [List.getD_eq_getElem?_getD, List.getElem?_eq_getElem hi]
      exact he)
  unfold maxLen at hm
  generalize hn : l.length = n at *
  have HXA := Lib.hid hxa
  have HS := Lib.hid (fun i => S_eq (l.getD i fd0).tag t)
  have HR := Lib.hid (Below.refl w.heap.size w)
  clear hn hv hxa hr
  go_enter Tryd.func33, Tryd.ntmps33
  go_wp2
  go_loopw [5] (fun s5 wr => ∃ i : Nat, s5 = .int .i64 (i : Int) ∧ i ≤ n ∧ RowKit.Hid (∀ a, a < i → (l.getD a fd0).tag ≠ t) ∧ RowKit.Hid (Below w.heap.size w wr)) (fun s5 _ => n - (intOf s5).toNat)
  case atStart => exact ⟨0, rfl, Nat.zero_le _, (fun a h2 => by omega), HR.out⟩
  case round =>
    obtain ⟨i, rfl, hi, HI, HB⟩ := hrel
    have i1 : (0 : Int) ≤ (i : Int) := by omega
    by_cases hin : i < n
    · have i2 : (i : Int) < (n : Int) := by omega
      obtain rfl := hga (by omega)
      obtain ⟨⟨c1, -, -, -⟩, -⟩ := HXA.out wr HB.out i hin
      have b1 := HS.out i
      by_cases hxy : (l.getD i fd0).tag = t
      · have hr := HYes.out i hin hxy
        subst hr
        rw [decide_eq_true hxy] at b1
        have HF := Lib.hid HB.out
        clear hxy HYes HNo HI HB HS
        generalize S (l.getD i fd0).tag = y at *
        generalize S t = st at *
        go_wp2
        first | exact ⟨rfl, HF.out⟩ | (go_ret; exact ⟨rfl, HF.out⟩)
      · have HI2 : RowKit.Hid (∀ a, a < i + 1 → (l.getD a fd0).tag ≠ t) := by
          intro a h2
          rcases Nat.lt_or_ge a i with h | h
          · exact HI.out a h
          · rw [show a = i by omega]; exact hxy
        rw [decide_eq_false hxy] at b1
        clear hxy HYes HNo HI HS
        generalize S (l.getD i fd0).tag = y at *
        go_wp2
        go_roundw
        case rel => exact ⟨i + 1, by go_num, by omega, HI2.out, HB.out⟩
        case measure => simp [intOf]; omega
    · obtain rfl : i = n := by omega
      have hr := HNo.out HI.out
      subst hr
      have HF := Lib.hid HB.out
      clear HI HYes HNo HB
      go_wp2
      first | exact ⟨rfl, HF.out⟩ | (go_ret; exact ⟨rfl, HF.out⟩)
theorem fcells16 {W : World} {b : Nat} {t : TypeId} {x0 x1 x2 x3 : Value} (h : W.heap[b]? = some (.cells #[x0, x1, x2, x3] t (0, 0))) : W.cell? ⟨b, 0, none⟩ = some x0 ∧ W.cell? ⟨b, 1, none⟩ = some x1 ∧ W.cell? ⟨b, 2, none⟩ = some x2 ∧ W.cell? ⟨b, 3, none⟩ = some x3 := by
  refine ⟨?_, ?_, ?_, ?_⟩ <;> rw [Lib.cell_of_heap h] <;> rfl
set_option maxHeartbeats 8000000 in
set_option maxRecDepth 100000 in
theorem refHas16_any (l : List Fld) (v : Value) (f : Fld) (u : Value) (w : World) (hv : FL v l w) (hu : QL u f.subs w) (r : Bool) (hr : hasF l f = r) :
    Calls Tryd.prog 32 #[v, FV f u] w fun e w' => e = .returned (.bool r) ∧ Below w.heap.size w w' := by
  obtain ⟨W0, hW0⟩ : ∃ W0, w.alloc (.cells #[.string (S f.tag), .string (S f.ind), u, .int .i64 f.auth] 45) = W0 := ⟨_, rfl⟩
  have b0 : Below w.heap.size w W0 := by rw [← hW0]; exact (Below.refl w.heap.size w).alloc (Nat.le_refl _) _
  have hX : W0.heap[w.heap.size]? = some (.cells #[.string (S f.tag), .string (S f.ind), u, .int .i64 f.auth] 45 (0, 0)) := by rw [← hW0]; exact heap_alloc_new w _
  have hlt : w.heap.size < W0.heap.size := by rw [← hW0]; simp
  have HFx := Lib.hid (fun (W : World) (h : Below W0.heap.size W0 W) => (h.block w.heap.size hlt).trans hX)
  have HBw := Lib.hid (fun (W : World) (h : Below W0.heap.size W0 W) => b0.trans (h.mono b0.size))
  obtain ⟨a, ca, g, o, us, rfl, hca, hm, hga, hxa⟩ := hv.open16
  have HXA := Lib.hid (fun (W : World) (h : Below W0.heap.size W0 W) => hxa W (HBw.out W h))
  have HSm := Lib.hid (fun (x : Fld) (ux : Value) (W : World) (h : Below W0.heap.size W0 W) (hq : QL ux x.subs W) => refSame_any x f ux u W hq (hu.after (HBw.out W h)) (sameB x f) rfl)
  have HYes := Lib.hid (fun i (hi : i < l.length) (e : sameB (l.getD i fd0) f = true) => show r = true from by
    rw [← hr, hasF_iff, ← (sameB_iff _ _).1 e, List.getD_eq_getElem?_getD, List.getElem?_eq_getElem hi]
    exact List.getElem_mem hi)
  have HNo := Lib.hid (fun (h : ∀ i, i < l.length → sameB (l.getD i fd0) f = false) => show r = false from by
    rw [← hr]
    cases e : hasF l f with
    | false => rfl
    | true =>
      have hx := (hasF_iff l f).1 e
      obtain ⟨i, hi, he⟩ := List.getElem_of_mem hx
      have := h i hi
      rw [List.getD_eq_getElem?_getD, List.getElem?_eq_getElem hi] at this
      change sameB l[i] f = false at this
      rw [he, (sameB_iff f f).2 rfl] at this
      cases this)
  obtain ⟨ga, gc, hgu, -, -⟩ := hu.length
  have HR := Lib.hid (Below.refl W0.heap.size W0)
  unfold maxLen at hm
  unfold FV at *
  subst hgu
  have HW0 := Lib.hid hW0
  clear hW0 hX hlt b0 hv hu hxa hr
  generalize hn : l.length = n at *
  clear hn
  generalize f.subs.length = gn at *
  generalize S f.tag = gt at *
  generalize S f.ind = gi at *
  generalize f.auth = gau at *
  go_enter Tryd.func32, Tryd.ntmps32
  go_upto_region 1 with fail
  rw [HW0.out]
  clear HW0
  go_wp2
  go_loopw [5] (fun s5 wr => ∃ i : Nat, s5 = .int .i64 (i : Int) ∧ i ≤ n ∧ RowKit.Hid (∀ a, a < i → sameB (l.getD a fd0) f = false) ∧ RowKit.Hid (Below W0.heap.size W0 wr)) (fun s5 _ => n - (intOf s5).toNat)
  case atStart => exact ⟨0, rfl, Nat.zero_le _, (fun a h2 => by omega), HR.out⟩
  case round =>
    obtain ⟨i, rfl, hi, HI, HB⟩ := hrel
    obtain ⟨wq, hwq⟩ : ∃ x, wr = x := ⟨_, rfl⟩
    rw [hwq] at HB ⊢
    clear hwq HR
    have i1 : (0 : Int) ≤ (i : Int) := by omega
    by_cases hin : i < n
    · have i2 : (i : Int) < (n : Int) := by omega
      obtain rfl := hga (by omega)
      obtain ⟨X, hXd⟩ : ∃ X, l.getD i fd0 = X := ⟨_, rfl⟩
      have hxc := fun (W : World) (h : Below W0.heap.size W0 W) => HXA.out W h i hin
      have hy := HYes.out i hin
      have HI2 : RowKit.Hid (sameB X f = false → ∀ a, a < i + 1 → sameB (l.getD a fd0) f = false) := by
        intro hf a h2
        rcases Nat.lt_or_ge a i with h | h
        · exact HI.out a h
        · rw [show a = i by omega, hXd]; exact hf
      rw [hXd] at hxc hy
      obtain ⟨xa, xc, hux, -, -⟩ := (hxc wq HB.out).2.length
      rw [hux] at hxc
      have cS0 := fun (W : World) (h : Below wq.heap.size wq W) => HSm.out X _ W (HB.out.trans (h.mono HB.out.size)) (hxc W (HB.out.trans (h.mono HB.out.size))).2
      obtain ⟨b, hb⟩ : ∃ b, sameB X f = b := ⟨_, rfl⟩
      rw [hb] at cS0 hy HI2
      have cS := Lib.hid cS0
      have HCq := Lib.hid (fun (W : World) (h : Below wq.heap.size wq W) => (hxc W (HB.out.trans (h.mono HB.out.size))).1)
      have HFq := Lib.hid (fun (W : World) (h : Below wq.heap.size wq W) => HFx.out W (HB.out.trans (h.mono HB.out.size)))
      have HY := Lib.hid hy
      clear hxc hy cS0 hb hXd hux HSm HXA HI HYes HNo
      generalize X.subs.length = xn at *
      generalize S X.tag = xt at *
      generalize S X.ind = xi at *
      generalize X.auth = xau at *
      go_upto_region 4 with fail
      apply wp_region_inv (V := [.eq (.slice (some ⟨g, o, none⟩) n ca), .eq (.int .i64 (i : Int)), .eq (.pointer (some ⟨g, o + i * 4, none⟩)), .eq (.agg #[.string xt, .string xi, .slice xa xn xc, .int .i64 xau]), .eq (.agg #[.string gt, .string gi, .slice ga gn gc, .int .i64 gau]), .eq (.bool b)])
      case hm => kernel_rfl
      case hd => kernel_rfl
      case hb => kernel_rfl
      case hA =>
        intro vs
        simp only [puts, Act.put, List.setIfInBounds_toArray, List.set_cons_zero, List.set_cons_succ]
        exact rfl
      case hob =>
        refine Obs.cons _ _ _ _ _ _ ?o0 (Obs.cons _ _ _ _ _ _ ?o1 (Obs.cons _ _ _ _ _ _ ?o2 (Obs.cons _ _ _ _ _ _ ?o3 (Obs.cons _ _ _ _ _ _ ?o4 (Obs.cons _ _ _ _ _ _ ?o5 (Obs.nil _ _ _ _ _ _))))))
        case o0 =>
          intro vs W hw hd K hK
          go_simp
          exact hK.out _ _ rfl (Below.refl _ _)
        case o1 =>
          intro vs W hw hd K hK
          go_simp
          exact hK.out _ _ rfl (Below.refl _ _)
        case o2 =>
          intro vs W hw hd K hK
          have h0 : vs 0 = .slice (some ⟨g, o, none⟩) n ca := hd 0 (by kernel_rfl)
          have h1 : vs 1 = .int .i64 (i : Int) := hd 1 (by kernel_rfl)
          simp only [Nat.reduceAdd, h0, h1] at hK ⊢
          go_simp
          exact hK.out _ _ rfl (Below.refl _ _)
        case o3 =>
          intro vs W hw hd K hK
          have h2 : vs 2 = .pointer (some ⟨g, o + i * 4, none⟩) := hd 2 (by kernel_rfl)
          obtain ⟨c0, c1, c2, c3⟩ := HCq.out W hw
          simp only [Nat.reduceAdd, h2] at hK ⊢
          go_simp
          exact hK.out _ _ rfl (Below.refl _ _)
        case o4 =>
          intro vs W hw hd K hK
          obtain ⟨k0, k1, k2, k3⟩ := fcells16 (HFq.out W hw)
          go_simp
          exact hK.out _ _ rfl (Below.refl _ _)
        case o5 =>
          intro vs W hw hd K hK
          have h3 : vs 3 = .agg #[.string xt, .string xi, .slice xa xn xc, .int .i64 xau] := hd 3 (by kernel_rfl)
          have h4 : vs 4 = .agg #[.string gt, .string gi, .slice ga gn gc, .int .i64 gau] := hd 4 (by kernel_rfl)
          simp only [Nat.reduceAdd, h3, h4] at hK ⊢
          go_simp
          refine (cS.out W hw).mono ?_
          rintro e W' ⟨rfl, hb'⟩
          exact hK.out _ _ rfl hb'
      case hfin =>
        intro vs W hw hd
        have h5 : vs 5 = .bool b := hd 5 (by decide)
        simp only [Nat.reduceAdd, h5]
        have HB2 := Lib.hid (HB.out.trans (hw.mono HB.out.size))
        clear hd h5 hw HB cS HCq HFq
        cases b with
        | true =>
          have hr := HY.out rfl
          subst hr
          have HF := Lib.hid (HBw.out W HB2.out)
          go_wp2
          first | exact ⟨rfl, HF.out⟩ | (go_ret; exact ⟨rfl, HF.out⟩)
        | false =>
          have HI3 := Lib.hid (HI2.out rfl)
          go_wp2
          go_roundw
          case rel => exact ⟨i + 1, by go_num, by omega, HI3.out, HB2.out⟩
          case measure => simp [intOf]; omega
    · obtain rfl : i = n := by omega
      have hr := HNo.out HI.out
      subst hr
      have HF := Lib.hid (HBw.out wq HB.out)
      clear HI HYes HNo HB
      go_wp2
      first | exact ⟨rfl, HF.out⟩ | (go_ret; exact ⟨rfl, HF.out⟩)
end

end Go.Proofs.YtceneblmllpdnaaDoor
