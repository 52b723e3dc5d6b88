/- Merged: LD15. -/
import Derived.Test.YtfjfpefpdlecbaaGreatDoorQ40
import Derived.Test.YtfjfpefpdlecbaaGreatDoorQ43
import Derived.Test.YtfjfpefpdlecbaaGreatDoorQ44
import Derived.RegionTactic
import Derived.BigRegion
namespace Go.Proofs.YtfjfpefpdlecbaaGreatDoor

section
open Go.RowKit Go.PlainAid
theorem RL.open15 {v : Value} {A : List Rec} {w : World} (h : RL v A w) : ∃ a cap g o, ∃ us : Nat → Value, v = .slice a A.length cap ∧ A.length ≤ cap ∧ cap ≤ maxLen ∧ (0 < A.length → a = some ⟨g, o, none⟩) ∧ ∀ W, Below w.heap.size w W → ∀ i, i < A.length →
    (W.cell? ⟨g, o + i * 5, none⟩ = some (.int .i64 (A.getD i rec0).id) ∧ W.cell? ⟨g, o + i * 5 + 1, none⟩ = some (.int .i64 (A.getD i rec0).ver) ∧ W.cell? ⟨g, o + i * 5 + 2, none⟩ = some (.int .i64 (A.getD i rec0).kind) ∧
      W.cell? ⟨g, o + i * 5 + 3, none⟩ = some (.string (S (A.getD i rec0).lang)) ∧ W.cell? ⟨g, o + i * 5 + 4, none⟩ = some (us i)) ∧ FL (us i) (A.getD i rec0).fields W := by
  obtain ⟨a, cap, rfl, hc, hm, hn, hx⟩ := h
  by_cases h0 : 0 < A.length
  · obtain ⟨g, o, -, rfl, -⟩ := hx 0 h0
    have hy : ∀ i, i < A.length → ∃ u, g < w.heap.size ∧ w.cell? ⟨g, o + i * 5, none⟩ = some (.int .i64 (A.getD i rec0).id) ∧ w.cell? ⟨g, o + i * 5 + 1, none⟩ = some (.int .i64 (A.getD i rec0).ver) ∧ w.cell? ⟨g, o + i * 5 + 2, none⟩ = some (.int .i64 (A.getD i rec0).kind) ∧
      w.cell? ⟨g, o + i * 5 + 3, none⟩ = some (.string (S (A.getD i rec0).lang)) ∧ w.cell? ⟨g, o + i * 5 + 4, none⟩ = some u ∧ FL u (A.getD i rec0).fields w := by
      intro i hi
      obtain ⟨g', o', u, e, rest⟩ := hx i hi
      obtain ⟨rfl, rfl, -⟩ := Addr.mk.inj (Option.some.inj e)
      exact ⟨u, rest⟩
    refine ⟨_, cap, g, o, fun i => if h : i < A.length then (hy i h).choose else .nilIface, rfl, hc, hm, fun _ => rfl, fun W hb i hi => ?_⟩
    obtain ⟨hg, h1, h2, h3, h4, h5, h6⟩ := (hy i hi).choose_spec
    simp only [dif_pos hi]
    exact ⟨⟨(hb.cell (p := ⟨g, o + i * 5, none⟩) hg).trans h1, (hb.cell (p := ⟨g, o + i * 5 + 1, none⟩) hg).trans h2, (hb.cell (p := ⟨g, o + i * 5 + 2, none⟩) hg).trans h3, (hb.cell (p := ⟨g, o + i * 5 + 3, none⟩) hg).trans h4, (hb.cell (p := ⟨g, o + i * 5 + 4, none⟩) hg).trans h5⟩, h6.after hb⟩
  · exact ⟨a, cap, 0, 0, fun _ => .nilIface, rfl, hc, hm, fun h => absurd h h0, fun W hb i hi => absurd hi (by omega)⟩
theorem find_len15 (m : MRule) (l : List Rec) (a : Rec) : (findM m l a).length ≤ l.length := by
  unfold findM foundM hitsM
  rw [List.length_map, ins_fold_len, List.length_map]
  have := List.length_filter_le (fun x : Rec => decide (x.id ≠ a.id) && decide (m.need ≤ scoreM m x a)) l
  simp only [List.length_nil]
  omega
theorem twosA_len15 (m : MRule) (a : Rec) (l : List Rec) : (twosA m a l).length ≤ l.length := by
  unfold twosA
  rw [List.length_map]
  exact List.length_filter_le _ _
theorem cnt_le15 (m : MRule) (l : List Rec) (h8 : l.length ≤ 8) (i k : Nat) (hi : i ≤ l.length) (hk : k ≤ l.length) : cntM m l i k ≤ i * 8 + k := by
  have key : ∀ L : List Rec, (L.flatMap fun a => twosA m a l).length ≤ L.length * 8 := by
    intro L
    induction L with
    | nil => simp
    | cons x r ih =>
      rw [List.flatMap_cons, List.length_append, List.length_cons]
      have := twosA_len15 m x l
      omega
  have h1 := key (l.take i)
  have h2 := twosA_len15 m (l.getD i rec0) (l.take k)
  rw [List.length_take] at h1 h2
  unfold cntM
  omega
def SP.il15 (l : List Int) : SP := ⟨fun v w => IL v l w, fun _ _ _ h hb => h.after hb⟩
set_option maxHeartbeats 32000000 in
set_option maxRecDepth 100000 in
theorem lawBoth15_any (m : MRule) (mv : Value) (u : Value) (l : List Rec) (w : World) (hE : Env w) (hm : KL mv m.keys w) (hu : RL u l w) :
    Calls Tryz.prog 8 #[MV m mv, u] w fun e w' => e = .returned (.bool true) ∧ Below w.heap.size w w' := by
  obtain ⟨W0, hW0⟩ : ∃ W0, w.alloc (.cells #[mv, .int .i64 m.need] 24) = W0 := ⟨_, rfl⟩
  have b0 : Below w.heap.size w W0 := by rw [← hW0]; exact (Below.refl w.heap.size w).alloc (Nat.le_refl _) _
  have hX : W0.heap[w.heap.size]? = some (.cells #[mv, .int .i64 m.need] 24 (0, 0)) := by rw [← hW0]; exact heap_alloc_new w _
  have hlt : w.heap.size < W0.heap.size := by rw [← hW0]; simp
  have HMx := Lib.hid (fun (W : World) (h : Below W0.heap.size W0 W) => (h.block w.heap.size hlt).trans hX)
  have hWw := fun (W : World) (h : Below W0.heap.size W0 W) => b0.trans (h.mono b0.size)
  have HBw := Lib.hid hWw
  have c1 := Lib.hid (lalive15_any W0 (hE.after b0))
  have cR0 := Lib.hid (fun (W : World) (h : Below W0.heap.size W0 W) => refRight15_any m mv W (hm.after (hWw W h)))
  obtain ⟨va, hva⟩ : ∃ x, allB l = x := ⟨_, rfl⟩
  have cAl := Lib.hid (fun (W : World) (h : Below W0.heap.size W0 W) => lall_any l u W (hu.after (hWw W h)) va hva)
  have cPx := Lib.hid (fun (hr : rightM m = 0) (h1 : va = true) (W : World) (h : Below W0.heap.size W0 W) => pPairs_any m mv l u W (hE.after (hWw W h)) (hm.after (hWw W h)) (okM_of m hr) (okN_of m hr) (hu.after (hWw W h)) (allB_ok l (hva.trans h1)).2.1 (allB_ok l (hva.trans h1)).1 (allB_ok l (hva.trans h1)).2.2)
  have cFx := Lib.hid (fun (hr : rightM m = 0) (h1 : va = true) (r : Rec) (hrl : r ∈ l) (ur : Value) (W : World) (h : Below W0.heap.size W0 W) (hf : FL ur r.fields W) => pFind_any m mv l u r ur W (hE.after (hWw W h)) (hm.after (hWw W h)) (okM_of m hr) (okN_of m hr) (hu.after (hWw W h)) (allB_ok l (hva.trans h1)).2.1 (allB_ok l (hva.trans h1)).1 (allB_ok l (hva.trans h1)).2.2 hf ((allB_ok l (hva.trans h1)).2.1 r hrl))
  have cSx := Lib.hid (fun (hr : rightM m = 0) (h1 : va = true) (a b : Rec) (hal : a ∈ l) (hbl : b ∈ l) (ua ub : Value) (W : World) (h : Below W0.heap.size W0 W) (hfa : FL ua a.fields W) (hfb : FL ub b.fields W) => pScore_any m mv a b ua ub W (hE.after (hWw W h)) (hm.after (hWw W h)) (okM_of m hr) (okN_of m hr) hfa hfb ((allB_ok l (hva.trans h1)).2.1 a hal) ((allB_ok l (hva.trans h1)).2.1 b hbl))
  have HHas := Lib.hid (fun (h1 : va = true) (a b : Rec) (hb : b ∈ l) (hab : a.id ≠ b.id) => find_has m l (allB_ok l (hva.trans h1)).2.2 a b hb hab)
  have HZ := Lib.hid (fun (h1 : va = true) => (allB_ok l (hva.trans h1)).1)
  have HFl := Lib.hid (fun (a : Rec) => find_len15 m l a)
  have HCs := Lib.hid (fun i k (h : k < l.length) => cnt_snoc m l i k h)
  have HCn := Lib.hid (fun i (h : i < l.length) => cnt_next m l i h)
  have HCe := Lib.hid (cnt_end m l)
  have HC0 := Lib.hid (cnt_start m l)
  have HMem := Lib.hid (fun i (h : i < l.length) => show l.getD i rec0 ∈ l by
    rw [List.getD_eq_getElem?_getD, List.getElem?_eq_getElem h]
    exact List.getElem_mem h)
  have HComm := Lib.hid (fun a b => scoreM_comm m a b)
  obtain ⟨a, cap, g, o, us, hv, hc, hmx, hga, hxa⟩ := hu.open15
  obtain ⟨ma, mc, hmv⟩ : ∃ x cap, mv = .slice x m.keys.length cap := by
    obtain ⟨x, cap, h, -⟩ := hm
    exact ⟨x, cap, h⟩
  have HX := Lib.hid hxa
  unfold maxLen at hmx
  unfold MV at *
  subst hv hmv
  have HW0 := Lib.hid hW0
  clear hW0 hX hlt b0 hWw hva hm hu hE hxa
  generalize m.keys.length = mn at *
  generalize rightM m = rr at *
  obtain ⟨n, hn⟩ : ∃ n, l.length = n := ⟨_, rfl⟩
  rw [hn] at hc hga HX HMem HCs HCn HCe HZ cPx cFx cAl ⊢
  have HN := Lib.hid hn
  clear hn
  go_enter Tryz.func8, Tryz.ntmps8
  go_upto_region 1 with fail
  rw [HW0.out]
  clear HW0
  go_wp2_with fail
  refine c1.out.mono ?_
  rintro e w1 ⟨rfl, hb1⟩
  have B1 := Lib.hid hb1
  have cR1 := Lib.hid (cR0.out w1 hb1)
  obtain ⟨m0, m1⟩ := mcells2 (HMx.out w1 hb1)
  clear hb1 c1 cR0
  go_wp2_with fail
  refine cR1.out.mono ?_
  rintro e w2 ⟨rfl, hb2⟩
  have B2 := Lib.hid (B1.out.trans (hb2.mono B1.out.size))
  clear hb2 cR1 B1 m0 m1
  by_cases hr : rr = 0
  · subst hr
    have cV1 := Lib.hid (cAl.out w2 B2.out)
    clear cAl
    go_wp2_with fail
    refine cV1.out.mono ?_
    rintro e w3 ⟨rfl, hb3⟩
    have B3 := Lib.hid (B2.out.trans (hb3.mono B2.out.size))
    clear hb3 cV1 B2
    cases va with
    | false =>
      have HF := Lib.hid (HBw.out w3 B3.out)
      clear cPx cFx cSx HHas HZ
      go_wp2
      first | exact ⟨rfl, HF.out⟩ | (go_ret; exact ⟨rfl, HF.out⟩)
    | true =>
    have cP1 := Lib.hid (cPx.out (by simp) rfl w3 B3.out)
    have cF := Lib.hid (cFx.out (by simp) rfl)
    have cS := Lib.hid (cSx.out (by simp) rfl)
    have HHs := Lib.hid (HHas.out rfl)
    have hn8 := HZ.out rfl
    obtain ⟨m0, m1⟩ := mcells2 (HMx.out w3 B3.out)
    clear cPx cFx cSx HHas HZ
    go_wp2_with fail
    refine cP1.out.mono ?_
    rintro e w4 ⟨vp, rfl, hpl, hb4⟩
    obtain ⟨pa, pc, hvp⟩ : ∃ x cap, vp = .slice x (pairsM m l).length cap := by
      obtain ⟨x, cap, h, -⟩ := hpl
      exact ⟨x, cap, h⟩
    have B4 := Lib.hid (B3.out.trans (hb4.mono B3.out.size))
    rw [← HCe.out] at hvp
    subst hvp
    have HEq : RowKit.Hid (cntM m l n 0 ≤ n * 8) := cnt_le15 m l (by rw [HN.out]; exact hn8) n 0 (by rw [HN.out]; exact Nat.le_refl _) (Nat.zero_le _)
    clear hpl hb4 cP1 m0 m1 B3
    generalize hcn : cntM m l n 0 = cn at *
    have HCn2 := Lib.hid hcn
    clear hcn HCe
    go_wp2
    go_loopw [6, 7, 8, 9, 10, 11] (fun s6 s7 _ _ _ _ wr => ∃ c i : Nat, s7 = .int .i64 (i : Int) ∧ i ≤ n ∧ s6 = .int .i64 (c : Int) ∧ RowKit.Hid (c = cntM m l i 0) ∧ RowKit.Hid (Below W0.heap.size W0 wr)) (fun _ s7 _ _ _ _ _ => n - (intOf s7).toNat)
    case atStart => exact ⟨0, 0, rfl, Nat.zero_le _, rfl, HC0.out.symm, B4.out⟩
    case round =>
      obtain ⟨c, i, rfl, hi, rfl, HCc, HB⟩ := hrel
      clear B4
      by_cases hin : i < n
      · have i1 : (0 : Int) ≤ (i : Int) := by omega
        have i2 : (i : Int) < (n : Int) := by omega
        obtain rfl := hga (by omega)
        have haM := HMem.out i hin
        have HCi : RowKit.Hid (∀ k, k ≤ n → cntM m l i k ≤ 100) := fun k hk => by
          have := cnt_le15 m l (by rw [HN.out]; exact hn8) i k (by rw [HN.out]; exact hi) (by rw [HN.out]; exact hk)
          omega
        obtain ⟨A, hA⟩ : ∃ A, l.getD i rec0 = A := ⟨_, rfl⟩
        have hXi := fun (W : World) (h : Below W0.heap.size W0 W) => HX.out W (HBw.out W h) i hin
        have hcs := fun k (h : k < n) => HCs.out i k h
        rw [hA] at haM hXi hcs
        obtain ⟨ua, uc, hua, -, -⟩ := (hXi wr HB.out).2.length
        rw [hua] at hXi
        have HXi := Lib.hid hXi
        have HCk := Lib.hid hcs
        have HCnx := Lib.hid (HCn.out i hin)
        have HAm := Lib.hid haM
        clear hXi hcs haM hA
        go_wp2
        go_loopw [6, 8, 9, 10, 11] (fun s6 s8 _ _ _ wr => ∃ c k : Nat, s8 = .int .i64 (k : Int) ∧ k ≤ n ∧ s6 = .int .i64 (c : Int) ∧ RowKit.Hid (c = cntM m l i k) ∧ RowKit.Hid (Below W0.heap.size W0 wr)) (fun _ s8 _ _ _ _ => n - (intOf s8).toNat)
        case atStart => exact ⟨c, 0, rfl, Nat.zero_le _, rfl, HCc.out, HB.out⟩
        case round =>
          obtain ⟨c, k, rfl, hk, rfl, HCd, HBr⟩ := hrel
          clear HB HCc
          obtain ⟨wq, hwq⟩ : ∃ wq, wr = wq := ⟨_, rfl⟩
          rw [hwq] at HBr ⊢
          clear hwq
          by_cases hkn : k < n
          · have k1 : (0 : Int) ≤ (k : Int) := by omega
            have k2 : (k : Int) < (n : Int) := by omega
            have hbM := HMem.out k hkn
            obtain ⟨B, hB⟩ : ∃ B, l.getD k rec0 = B := ⟨_, rfl⟩
            have hXk := fun (W : World) (h : Below W0.heap.size W0 W) => HX.out W (HBw.out W h) k hkn
            have hck := HCk.out k hkn
            rw [hB] at hbM hXk hck
            obtain ⟨ub, uc2, hub, -, -⟩ := (hXk wq HBr.out).2.length
            rw [hub] at hXk
            have hc64 := HCi.out k hk
            rw [← HCd.out] at hck hc64
            have HXk := Lib.hid hXk
            have HBm := Lib.hid hbM
            have HCx := Lib.hid hck
            clear hXk hck hbM hB
            go_upto_region 13 with fail
            apply wp_region_imp (imp := fun i => decide (i ∈ [8, 9, 10])) (X := fun d vs W => Bx wq.heap.size wq #[.int .i64 A.id, .int .i64 A.ver, .int .i64 A.kind, .string (S A.lang), .slice ua A.fields.length uc] d vs W) (V := [(fun v => v = .slice (some ⟨g, o, none⟩) n cap), (fun v => v = .int .i64 (i : Int)), (fun v => v = .pointer (some ⟨g, o + i * 5, none⟩)), (fun v => v = .agg #[.int .i64 A.id, .int .i64 A.ver, .int .i64 A.kind, .string (S A.lang), .slice ua A.fields.length uc]), (fun v => v = .slice (some ⟨g, o, none⟩) n cap), (fun v => v = .int .i64 (k : Int)), (fun v => v = .pointer (some ⟨g, o + k * 5, none⟩)), (fun v => v = .agg #[.int .i64 B.id, .int .i64 B.ver, .int .i64 B.kind, .string (S B.lang), .slice ub B.fields.length uc2]), (fun _ => True), (fun _ => True), (fun _ => True)]) (n := 11) (f := 2)
            case hX0 => exact fun vs => Bx.init (Below.refl _ _).drew (Nat.le_refl _) vs
            case hXst => exact fun d vs u w h hb => h.below hb
            case hXo =>
              intro d vs w i v hi h
              have hi := of_decide_eq_false hi
              simp only [List.mem_cons, List.not_mem_nil, or_false, not_or] at hi
              exact h.other i v (Ne.symm hi.1) (Ne.symm hi.2.1) (Ne.symm hi.2.2)
            case hm => kernel_rfl
            case hd => kernel_rfl
            case hb => kernel_rfl
            case hA =>
              intro vs
              simp only [puts, Act.put, List.setIfInBounds_toArray, List.set_cons_zero, List.set_cons_succ]
              exact rfl
            case hlast => kernel_rfl
            case hol => exact rfl
            case hob =>
              refine ObsI.cons _ _ _ _ _ _ _ ?o0 (ObsI.cons _ _ _ _ _ _ _ ?o1 (ObsI.cons _ _ _ _ _ _ _ ?o2 (ObsI.cons _ _ _ _ _ _ _ ?o3 (ObsI.cons _ _ _ _ _ _ _ ?o4 (ObsI.cons _ _ _ _ _ _ _ ?o5 (ObsI.cons _ _ _ _ _ _ _ ?o6 (ObsI.cons _ _ _ _ _ _ _ ?o7 (ObsI.cons _ _ _ _ _ _ _ ?o8 (ObsI.cons _ _ _ _ _ _ _ ?o9 (ObsI.cons _ _ _ _ _ _ _ ?o10 (ObsI.nil _ _ _ _ _ _ _)))))))))))
              case o0 =>
                intro d vs W hdk hdep hcl hv hX K hK
                go_simp
                exact hK.out _ _ (fun h => absurd h (by decide)) (fun _ => ⟨rfl, Below.refl _ _⟩)
              case o1 =>
                intro d vs W hdk hdep hcl hv hX K hK
                go_simp
                exact hK.out _ _ (fun h => absurd h (by decide)) (fun _ => ⟨rfl, Below.refl _ _⟩)
              case o2 =>
                intro d vs W hdk hdep hcl hv hX K hK
                have h0 : vs 0 = .slice (some ⟨g, o, none⟩) n cap := hv 0 (by kernel_rfl) (by decide)
                have h1 : vs 1 = .int .i64 (i : Int) := hv 1 (by kernel_rfl) (by decide)
                simp only [Nat.reduceAdd, h0, h1] at hK ⊢
                go_simp
                exact hK.out _ _ (fun h => absurd h (by decide)) (fun _ => ⟨rfl, Below.refl _ _⟩)
              case o3 =>
                intro d vs W hdk hdep hcl hv hX K hK
                have h2 : vs 2 = .pointer (some ⟨g, o + i * 5, none⟩) := hv 2 (by kernel_rfl) (by decide)
                obtain ⟨⟨a0, a1, a2, a3, a4⟩, -⟩ := HXi.out W (HBr.out.trans (hX.low.mono HBr.out.size))
                simp only [Nat.reduceAdd, h2] at hK ⊢
                go_simp
                exact hK.out _ _ (fun h => absurd h (by decide)) (fun _ => ⟨rfl, Below.refl _ _⟩)
              case o4 =>
                intro d vs W hdk hdep hcl hv hX K hK
                go_simp
                exact hK.out _ _ (fun h => absurd h (by decide)) (fun _ => ⟨rfl, Below.refl _ _⟩)
              case o5 =>
                intro d vs W hdk hdep hcl hv hX K hK
                go_simp
                exact hK.out _ _ (fun h => absurd h (by decide)) (fun _ => ⟨rfl, Below.refl _ _⟩)
              case o6 =>
                intro d vs W hdk hdep hcl hv hX K hK
                have h4 : vs 4 = .slice (some ⟨g, o, none⟩) n cap := hv 4 (by kernel_rfl) (by decide)
                have h5 : vs 5 = .int .i64 (k : Int) := hv 5 (by kernel_rfl) (by decide)
                simp only [Nat.reduceAdd, h4, h5] at hK ⊢
                go_simp
                exact hK.out _ _ (fun h => absurd h (by decide)) (fun _ => ⟨rfl, Below.refl _ _⟩)
              case o7 =>
                intro d vs W hdk hdep hcl hv hX K hK
                have h6 : vs 6 = .pointer (some ⟨g, o + k * 5, none⟩) := hv 6 (by kernel_rfl) (by decide)
                obtain ⟨⟨b0, b1, b2, b3, b4⟩, -⟩ := HXk.out W (HBr.out.trans (hX.low.mono HBr.out.size))
                simp only [Nat.reduceAdd, h6] at hK ⊢
                go_simp
                exact hK.out _ _ (fun h => absurd h (by decide)) (fun _ => ⟨rfl, Below.refl _ _⟩)
              case o8 =>
                intro d vs W hdk hdep hcl hv hX K hK
                have h10 : d 10 = false := by
                  cases hq : d 10 with
                  | false => rfl
                  | true => exact absurd (hcl 10 _ 8 rfl (by kernel_rfl) hq) (by rw [hdk]; decide)
                go_simp
                exact hK.out _ _ (fun _ => hX.s8 h10) (fun h => absurd h (by decide))
              case o9 =>
                intro d vs W hdk hdep hcl hv hX K hK
                go_simp
                exact hK.out _ _ (fun _ => hX.s9) (fun h => absurd h (by decide))
              case o10 =>
                intro d vs W hdk hdep hcl hv hX K hK
                have h3 : vs 3 = .agg #[.int .i64 A.id, .int .i64 A.ver, .int .i64 A.kind, .string (S A.lang), .slice ua A.fields.length uc] := hv 3 (by kernel_rfl) (by decide)
                have hd8 := hdep 8 (by kernel_rfl)
                obtain ⟨b, h8, hN8, hb8⟩ := hX.a hd8
                rw [hdk, if_neg (by decide)] at hb8
                obtain ⟨x0, x1, x2, x3, x4⟩ := rcells5 hb8
                have f0 := Lib.frozen_of_heap hb8 0
                have f1 := Lib.frozen_of_heap hb8 1
                have f2 := Lib.frozen_of_heap hb8 2
                have f3 := Lib.frozen_of_heap hb8 3
                have f4 := Lib.frozen_of_heap hb8 4
                simp only [Nat.reduceAdd, h3, h8] at hK ⊢
                go_simp
                exact hK.out undef _ (fun _ => hX.s10 h8 hN8 hb8 hd8 _) (fun h => absurd h (by decide))
            case hfin =>
              intro d vs W hall hX hv
              obtain ⟨bA, h8, hNA, hA⟩ := hX.a (hall 8 (by decide))
              rw [hall 10 (by decide), if_pos rfl] at hA
              obtain ⟨bB, h9, hNB, hB⟩ := hX.b (hall 9 (by decide))
              have hne : bA ≠ bB := fun e => hX.ne (hall 8 (by decide)) (hall 9 (by decide)) (by rw [h8, h9, e])
              have h7 : vs 7 = .agg #[.int .i64 B.id, .int .i64 B.ver, .int .i64 B.kind, .string (S B.lang), .slice ub B.fields.length uc2] := hv 7 (by decide) (by decide)
              obtain ⟨x0, x1, x2, x3, x4⟩ := rcells5 hB
              have f0 := Lib.frozen_of_heap hB 0
              have f1 := Lib.frozen_of_heap hB 1
              have f2 := Lib.frozen_of_heap hB 2
              have f3 := Lib.frozen_of_heap hB 3
              have f4 := Lib.frozen_of_heap hB 4
              obtain ⟨Wn, hWn⟩ : ∃ X, setR15 W bB (.int .i64 B.id) (.int .i64 B.ver) (.int .i64 B.kind) (.string (S B.lang)) (.slice ub B.fields.length uc2) = X := ⟨_, rfl⟩
              have bN : Below wq.heap.size wq Wn := by rw [← hWn]; exact setR15_below hX.low hNB _ _ _ _ _
              have hAn : Wn.heap[bA]? = some (.cells #[.int .i64 A.id, .int .i64 A.ver, .int .i64 A.kind, .string (S A.lang), .slice ua A.fields.length uc] 33 (0, 0)) := by rw [← hWn, setR15_ne _ _ _ _ _ _ _ _ hne]; exact hA
              have hBn : Wn.heap[bB]? = some (.cells #[.int .i64 B.id, .int .i64 B.ver, .int .i64 B.kind, .string (S B.lang), .slice ub B.fields.length uc2] 33 (0, 0)) := by rw [← hWn]; exact setR15_at hB
              have BN := Lib.hid (HBr.out.trans (bN.mono HBr.out.size))
              have HAq := Lib.hid (fun (X : World) (h : Below Wn.heap.size Wn X) => (h.block bA (Array.getElem?_eq_some_iff.1 hAn).1).trans hAn)
              have HBq := Lib.hid (fun (X : World) (h : Below Wn.heap.size Wn X) => (h.block bB (Array.getElem?_eq_some_iff.1 hBn).1).trans hBn)
              have HMq := Lib.hid (fun (X : World) (h : Below Wn.heap.size Wn X) => HMx.out X (BN.out.trans (h.mono BN.out.size)))
              have HBX := Lib.hid (fun (X : World) (h : Below Wn.heap.size Wn X) => BN.out.trans (h.mono BN.out.size))
              simp only [Nat.reduceAdd, h7, h8, h9]
              clear h7 h8 h9 hX hv hall hA hB hNA hNB bN hAn hBn hne
              unfold setR15 at hWn
              go_simp
              (try rw [hWn])
              clear hWn x0 x1 x2 x3 x4 f0 f1 f2 f3 f4
              obtain ⟨sc, hsc⟩ : ∃ x, scoreM m A B = x := ⟨_, rfl⟩
              have cAB0 := fun (X : World) (h : Below Wn.heap.size Wn X) => cS.out A B HAm.out HBm.out _ _ X (HBX.out X h) (HXi.out X (HBX.out X h)).2 (HXk.out X (HBX.out X h)).2
              have cBA0 := fun (X : World) (h : Below Wn.heap.size Wn X) => cS.out B A HBm.out HAm.out _ _ X (HBX.out X h) (HXk.out X (HBX.out X h)).2 (HXi.out X (HBX.out X h)).2
              rw [hsc] at cAB0
              rw [HComm.out B A, hsc] at cBA0
              have hcx := HCx.out
              rw [hsc] at hcx
              obtain ⟨ff, hff⟩ : ∃ f, decide (m.need ≤ sc) = f := ⟨_, rfl⟩
              have hfA : A.id ≠ B.id → decide (B.id ∈ findM m l A) = ff := fun h => by rw [← hff, ← hsc]; exact decide_eq_decide.2 (HHs.out A B HBm.out h)
              have hfB : A.id ≠ B.id → decide (A.id ∈ findM m l B) = ff := fun h => by rw [← hff, ← hsc, HComm.out A B]; exact decide_eq_decide.2 (HHs.out B A HAm.out (Ne.symm h))
              have cFA := Lib.hid (fun (X : World) (h : Below Wn.heap.size Wn X) => cF.out A HAm.out _ X (HBX.out X h) (HXi.out X (HBX.out X h)).2)
              have cFB := Lib.hid (fun (X : World) (h : Below Wn.heap.size Wn X) => cF.out B HBm.out _ X (HBX.out X h) (HXk.out X (HBX.out X h)).2)
              have cHA := Lib.hid (fun (hid : A.id ≠ B.id) (v : Value) (X : World) (h : IL v (findM m l A) X) => lfound_any (findM m l A) B.id v X h (by have := HFl.out A; have := HN.out; omega) ff (hfA hid))
              have cHB := Lib.hid (fun (hid : A.id ≠ B.id) (v : Value) (X : World) (h : IL v (findM m l B) X) => lfound_any (findM m l B) A.id v X h (by have := HFl.out B; have := HN.out; omega) ff (hfB hid))
              unfold RV at cAB0 cBA0 cFA cFB
              have cAB := Lib.hid cAB0
              have cBA := Lib.hid cBA0
              have HCy := Lib.hid hcx
              have HFF := Lib.hid hff
              obtain ⟨FA, hFA⟩ : ∃ x, findM m l A = x := ⟨_, rfl⟩
              obtain ⟨FB, hFB⟩ : ∃ x, findM m l B = x := ⟨_, rfl⟩
              rw [hFA] at cFA cHA
              rw [hFB] at cFB cHB
              clear cAB0 cBA0 hcx hsc hff hfA hfB hFA hFB HCx
              go_upto_region 14 with fail
              apply wp_region_inv (V := [.eq (.agg #[.slice ma mn mc, .int .i64 m.need]), .eq (.agg #[.int .i64 A.id, .int .i64 A.ver, .int .i64 A.kind, .string (S A.lang), .slice ua A.fields.length uc]), .eq (.agg #[.int .i64 B.id, .int .i64 B.ver, .int .i64 B.kind, .string (S B.lang), .slice ub B.fields.length uc2]), .eq (.int .i64 sc), .eq (.agg #[.slice ma mn mc, .int .i64 m.need]), .eq (.agg #[.int .i64 B.id, .int .i64 B.ver, .int .i64 B.kind, .string (S B.lang), .slice ub B.fields.length uc2]), .eq (.agg #[.int .i64 A.id, .int .i64 A.ver, .int .i64 A.kind, .string (S A.lang), .slice ua A.fields.length uc]), .eq (.int .i64 sc), .eq (.bool false)])
              case hm => kernel_rfl
              case hd => kernel_rfl
              case hb => kernel_rfl
              case hA =>
                intro vs
                simp only [puts, Act.put, List.setIfInBounds_toArray, List.set_cons_zero, List.set_cons_succ]
                exact rfl
              case hob =>
                refine Obs.cons _ _ _ _ _ _ ?o0 (Obs.cons _ _ _ _ _ _ ?o1 (Obs.cons _ _ _ _ _ _ ?o2 (Obs.cons _ _ _ _ _ _ ?o3 (Obs.cons _ _ _ _ _ _ ?o4 (Obs.cons _ _ _ _ _ _ ?o5 (Obs.cons _ _ _ _ _ _ ?o6 (Obs.cons _ _ _ _ _ _ ?o7 (Obs.cons _ _ _ _ _ _ ?o8 (Obs.nil _ _ _ _ _ _)))))))))
                case o0 =>
                  intro vs W hw hd K hK
                  obtain ⟨m0, m1⟩ := mcells2 (HMq.out W hw)
                  go_simp
                  exact hK.out _ _ rfl (Below.refl _ _)
                case o1 =>
                  intro vs W hw hd K hK
                  obtain ⟨x0, x1, x2, x3, x4⟩ := rcells5 (HAq.out W hw)
                  go_simp
                  exact hK.out _ _ rfl (Below.refl _ _)
                case o2 =>
                  intro vs W hw hd K hK
                  obtain ⟨y0, y1, y2, y3, y4⟩ := rcells5 (HBq.out W hw)
                  go_simp
                  exact hK.out _ _ rfl (Below.refl _ _)
                case o3 =>
                  intro vs W hw hd K hK
                  have h0 : vs 0 = .agg #[.slice ma mn mc, .int .i64 m.need] := hd 0 (by kernel_rfl)
                  have h1 : vs 1 = .agg #[.int .i64 A.id, .int .i64 A.ver, .int .i64 A.kind, .string (S A.lang), .slice ua A.fields.length uc] := hd 1 (by kernel_rfl)
                  have h2 : vs 2 = .agg #[.int .i64 B.id, .int .i64 B.ver, .int .i64 B.kind, .string (S B.lang), .slice ub B.fields.length uc2] := hd 2 (by kernel_rfl)
                  simp only [Nat.reduceAdd, h0, h1, h2] at hK ⊢
                  go_simp
                  refine (cAB.out W hw).mono ?_
                  rintro e W' ⟨rfl, hb'⟩
                  exact hK.out _ _ rfl hb'
                case o4 =>
                  intro vs W hw hd K hK
                  obtain ⟨m0, m1⟩ := mcells2 (HMq.out W hw)
                  go_simp
                  exact hK.out _ _ rfl (Below.refl _ _)
                case o5 =>
                  intro vs W hw hd K hK
                  obtain ⟨y0, y1, y2, y3, y4⟩ := rcells5 (HBq.out W hw)
                  go_simp
                  exact hK.out _ _ rfl (Below.refl _ _)
                case o6 =>
                  intro vs W hw hd K hK
                  obtain ⟨x0, x1, x2, x3, x4⟩ := rcells5 (HAq.out W hw)
                  go_simp
                  exact hK.out _ _ rfl (Below.refl _ _)
                case o7 =>
                  intro vs W hw hd K hK
                  have h4 : vs 4 = .agg #[.slice ma mn mc, .int .i64 m.need] := hd 4 (by kernel_rfl)
                  have h5 : vs 5 = .agg #[.int .i64 B.id, .int .i64 B.ver, .int .i64 B.kind, .string (S B.lang), .slice ub B.fields.length uc2] := hd 5 (by kernel_rfl)
                  have h6 : vs 6 = .agg #[.int .i64 A.id, .int .i64 A.ver, .int .i64 A.kind, .string (S A.lang), .slice ua A.fields.length uc] := hd 6 (by kernel_rfl)
                  simp only [Nat.reduceAdd, h4, h5, h6] at hK ⊢
                  go_simp
                  refine (cBA.out W hw).mono ?_
                  rintro e W' ⟨rfl, hb'⟩
                  exact hK.out _ _ rfl hb'
                case o8 =>
                  intro vs W hw hd K hK
                  have h3 : vs 3 = .int .i64 sc := hd 3 (by kernel_rfl)
                  have h7 : vs 7 = .int .i64 sc := hd 7 (by kernel_rfl)
                  simp only [Nat.reduceAdd, h3, h7] at hK ⊢
                  go_simp
                  exact hK.out _ _ rfl (Below.refl _ _)
              case hfin =>
                intro vs W hw hd
                have h8 : vs 8 = .bool false := hd 8 (by decide)
                simp only [Nat.reduceAdd, h8]
                clear hd h8
                replace HMq := Lib.hid (fun (X : World) (h : Below W.heap.size W X) => HMq.out X (hw.trans (h.mono hw.size)))
                replace HAq := Lib.hid (fun (X : World) (h : Below W.heap.size W X) => HAq.out X (hw.trans (h.mono hw.size)))
                replace HBq := Lib.hid (fun (X : World) (h : Below W.heap.size W X) => HBq.out X (hw.trans (h.mono hw.size)))
                replace HBX := Lib.hid (fun (X : World) (h : Below W.heap.size W X) => HBX.out X (hw.trans (h.mono hw.size)))
                replace cAB := Lib.hid (fun (X : World) (h : Below W.heap.size W X) => cAB.out X (hw.trans (h.mono hw.size)))
                replace cBA := Lib.hid (fun (X : World) (h : Below W.heap.size W X) => cBA.out X (hw.trans (h.mono hw.size)))
                replace cFA := Lib.hid (fun (X : World) (h : Below W.heap.size W X) => cFA.out X (hw.trans (h.mono hw.size)))
                replace cFB := Lib.hid (fun (X : World) (h : Below W.heap.size W X) => cFB.out X (hw.trans (h.mono hw.size)))
                clear hw
                have hbW := HBX.out W (Below.refl _ _)
                obtain ⟨x0, x1, x2, x3, x4⟩ := rcells5 (HAq.out W (Below.refl _ _))
                obtain ⟨y0, y1, y2, y3, y4⟩ := rcells5 (HBq.out W (Below.refl _ _))
                have HbW := Lib.hid hbW
                clear hbW
                by_cases hge : B.id ≤ A.id
                · have hd1 : decide (B.id ≤ A.id) = true := decide_eq_true hge
                  have hcn : c = cntM m l i (k + 1) := by
                    rw [HCy.out, if_neg (fun h => by omega)]
                    rfl
                  have HCz := Lib.hid hcn
                  clear hcn HCd HCy cHA cHB
                  go_wp2
                  go_roundw
                  case rel => exact ⟨c, k + 1, by go_num, by omega, rfl, HCz.out, HbW.out⟩
                  case measure => simp [intOf]; omega
                have hd1 : decide (B.id ≤ A.id) = false := decide_eq_false hge
                have hid : A.id ≠ B.id := by omega
                have cHA1 := Lib.hid (cHA.out hid)
                have cHB1 := Lib.hid (cHB.out hid)
                have hcn : cntM m l i (k + 1) = c + if ff = true then 1 else 0 := by
                  rw [HCy.out]
                  congr 1
                  have : (A.id < B.id ∧ m.need ≤ sc) ↔ ff = true := by
                    rw [← HFF.out, decide_eq_true_iff]
                    exact ⟨fun h => h.2, fun h => ⟨by omega, h⟩⟩
                  by_cases h : ff = true
                  · rw [if_pos h, if_pos (this.2 h)]
                  · rw [if_neg h, if_neg (fun g => h (this.1 g))]
                have HCz := Lib.hid hcn
                clear hcn HCd HCy cHA cHB hge hid
                go_upto_region 17 with fail
                clear x0 x1 x2 x3 x4 y0 y1 y2 y3 y4 HbW
                apply wp_region_inv (V := [.eq (.agg #[.slice ma mn mc, .int .i64 m.need]), .eq (.slice (some ⟨g, o, none⟩) n cap), .eq (.agg #[.int .i64 A.id, .int .i64 A.ver, .int .i64 A.kind, .string (S A.lang), .slice ua A.fields.length uc]), .il15 FA, .eq (.pointer (some ⟨bB, 0, none⟩)), .eq (.int .i64 B.id), .eq (.bool ff), .eq (.bool ff)])
                case hm => kernel_rfl
                case hd => kernel_rfl
                case hb => kernel_rfl
                case hA =>
                  intro vs
                  simp only [puts, Act.put, List.setIfInBounds_toArray, List.set_cons_zero, List.set_cons_succ]
                  exact rfl
                case hob =>
                  refine Obs.cons _ _ _ _ _ _ ?o0 (Obs.cons _ _ _ _ _ _ ?o1 (Obs.cons _ _ _ _ _ _ ?o2 (Obs.cons _ _ _ _ _ _ ?o3 (Obs.cons _ _ _ _ _ _ ?o4 (Obs.cons _ _ _ _ _ _ ?o5 (Obs.cons _ _ _ _ _ _ ?o6 (Obs.cons _ _ _ _ _ _ ?o7 (Obs.nil _ _ _ _ _ _))))))))
                  case o0 =>
                    intro vs W hw hd K hK
                    obtain ⟨m0, m1⟩ := mcells2 (HMq.out W hw)
                    go_simp
                    exact hK.out _ _ rfl (Below.refl _ _)
                  case o1 =>
                    intro vs W hw hd K hK
                    go_simp
                    exact hK.out _ _ rfl (Below.refl _ _)
                  case o2 =>
                    intro vs W hw hd K hK
                    obtain ⟨x0, x1, x2, x3, x4⟩ := rcells5 (HAq.out W hw)
                    go_simp
                    exact hK.out _ _ rfl (Below.refl _ _)
                  case o3 =>
                    intro vs W hw hd K hK
                    have h0 : vs 0 = .agg #[.slice ma mn mc, .int .i64 m.need] := hd 0 (by kernel_rfl)
                    have h1 : vs 1 = .slice (some ⟨g, o, none⟩) n cap := hd 1 (by kernel_rfl)
                    have h2 : vs 2 = .agg #[.int .i64 A.id, .int .i64 A.ver, .int .i64 A.kind, .string (S A.lang), .slice ua A.fields.length uc] := hd 2 (by kernel_rfl)
                    simp only [Nat.reduceAdd, h0, h1, h2] at hK ⊢
                    go_simp
                    refine (cFA.out W hw).mono ?_
                    rintro e W' ⟨v', rfl, hil, hb'⟩
                    exact hK.out _ _ hil hb'
                  case o4 =>
                    intro vs W hw hd K hK
                    go_simp
                    exact hK.out _ _ rfl (Below.refl _ _)
                  case o5 =>
                    intro vs W hw hd K hK
                    have h4 : vs 4 = .pointer (some ⟨bB, 0, none⟩) := hd 4 (by kernel_rfl)
                    obtain ⟨y0, y1, y2, y3, y4⟩ := rcells5 (HBq.out W hw)
                    simp only [Nat.reduceAdd, h4] at hK ⊢
                    go_simp
                    exact hK.out _ _ rfl (Below.refl _ _)
                  case o6 =>
                    intro vs W hw hd K hK
                    have h5 : vs 5 = .int .i64 B.id := hd 5 (by kernel_rfl)
                    have q3 : IL (vs 3) FA W := hd 3 (by kernel_rfl)
                    simp only [Nat.reduceAdd, h5] at hK ⊢
                    go_simp
                    refine (cHA1.out (vs 3) W q3).mono ?_
                    rintro e W' ⟨rfl, hb'⟩
                    exact hK.out _ _ rfl (by rw [hb']; exact Below.refl _ _)
                  case o7 =>
                    intro vs W hw hd K hK
                    have h6 : vs 6 = .bool ff := hd 6 (by kernel_rfl)
                    simp only [Nat.reduceAdd, h6] at hK ⊢
                    go_simp
                    exact hK.out _ _ rfl (Below.refl _ _)
                case hfin =>
                  intro vs W2 hw hd
                  have h7 : vs 7 = .bool ff := hd 7 (by decide)
                  simp only [Nat.reduceAdd, h7]
                  clear hd h7
                  replace HMq := Lib.hid (fun (X : World) (h : Below W2.heap.size W2 X) => HMq.out X (hw.trans (h.mono hw.size)))
                  replace HAq := Lib.hid (fun (X : World) (h : Below W2.heap.size W2 X) => HAq.out X (hw.trans (h.mono hw.size)))
                  replace HBq := Lib.hid (fun (X : World) (h : Below W2.heap.size W2 X) => HBq.out X (hw.trans (h.mono hw.size)))
                  replace HBX := Lib.hid (fun (X : World) (h : Below W2.heap.size W2 X) => HBX.out X (hw.trans (h.mono hw.size)))
                  replace cAB := Lib.hid (fun (X : World) (h : Below W2.heap.size W2 X) => cAB.out X (hw.trans (h.mono hw.size)))
                  replace cBA := Lib.hid (fun (X : World) (h : Below W2.heap.size W2 X) => cBA.out X (hw.trans (h.mono hw.size)))
                  replace cFA := Lib.hid (fun (X : World) (h : Below W2.heap.size W2 X) => cFA.out X (hw.trans (h.mono hw.size)))
                  replace cFB := Lib.hid (fun (X : World) (h : Below W2.heap.size W2 X) => cFB.out X (hw.trans (h.mono hw.size)))
                  clear hw
                  go_upto_region 18 with fail
                  apply wp_region_inv (V := [.eq (.bool ff), .eq (.agg #[.slice ma mn mc, .int .i64 m.need]), .eq (.slice (some ⟨g, o, none⟩) n cap), .eq (.agg #[.int .i64 B.id, .int .i64 B.ver, .int .i64 B.kind, .string (S B.lang), .slice ub B.fields.length uc2]), .il15 FB, .eq (.pointer (some ⟨bA, 0, none⟩)), .eq (.int .i64 A.id), .eq (.bool ff), .eq (.bool false), .eq (.bool false), .eq (.bool ff), .eq (.agg #[.slice ma mn mc, .int .i64 m.need]), .eq (.agg #[.int .i64 A.id, .int .i64 A.ver, .int .i64 A.kind, .string (S A.lang), .slice ua A.fields.length uc]), .eq (.agg #[.int .i64 B.id, .int .i64 B.ver, .int .i64 B.kind, .string (S B.lang), .slice ub B.fields.length uc2]), .eq (.int .i64 sc), .eq (.pointer (some ⟨w.heap.size, 1, none⟩)), .eq (.int .i64 m.need), .eq (.bool ff), .eq (.bool false), .eq (.bool false)])
                  case hm => kernel_rfl
                  case hd => kernel_rfl
                  case hb => kernel_rfl
                  case hA =>
                    intro vs
                    simp only [puts, Act.put, List.setIfInBounds_toArray, List.set_cons_zero, List.set_cons_succ]
                    exact rfl
                  case hob =>
                    refine Obs.cons _ _ _ _ _ _ ?o0 (Obs.cons _ _ _ _ _ _ ?o1 (Obs.cons _ _ _ _ _ _ ?o2 (Obs.cons _ _ _ _ _ _ ?o3 (Obs.cons _ _ _ _ _ _ ?o4 (Obs.cons _ _ _ _ _ _ ?o5 (Obs.cons _ _ _ _ _ _ ?o6 (Obs.cons _ _ _ _ _ _ ?o7 (Obs.cons _ _ _ _ _ _ ?o8 (Obs.cons _ _ _ _ _ _ ?o9 (Obs.cons _ _ _ _ _ _ ?o10 (Obs.cons _ _ _ _ _ _ ?o11 (Obs.cons _ _ _ _ _ _ ?o12 (Obs.cons _ _ _ _ _ _ ?o13 (Obs.cons _ _ _ _ _ _ ?o14 (Obs.cons _ _ _ _ _ _ ?o15 (Obs.cons _ _ _ _ _ _ ?o16 (Obs.cons _ _ _ _ _ _ ?o17 (Obs.cons _ _ _ _ _ _ ?o18 (Obs.cons _ _ _ _ _ _ ?o19 (Obs.nil _ _ _ _ _ _))))))))))))))))))))
                    case o0 =>
                      intro vs W hw hd K hK
                      go_simp
                      exact hK.out _ _ rfl (Below.refl _ _)
                    case o1 =>
                      intro vs W hw hd K hK
                      obtain ⟨m0, m1⟩ := mcells2 (HMq.out W hw)
                      go_simp
                      exact hK.out _ _ rfl (Below.refl _ _)
                    case o2 =>
                      intro vs W hw hd K hK
                      go_simp
                      exact hK.out _ _ rfl (Below.refl _ _)
                    case o3 =>
                      intro vs W hw hd K hK
                      obtain ⟨y0, y1, y2, y3, y4⟩ := rcells5 (HBq.out W hw)
                      go_simp
                      exact hK.out _ _ rfl (Below.refl _ _)
                    case o4 =>
                      intro vs W hw hd K hK
                      have h1 : vs 1 = .agg #[.slice ma mn mc, .int .i64 m.need] := hd 1 (by kernel_rfl)
                      have h2 : vs 2 = .slice (some ⟨g, o, none⟩) n cap := hd 2 (by kernel_rfl)
                      have h3 : vs 3 = .agg #[.int .i64 B.id, .int .i64 B.ver, .int .i64 B.kind, .string (S B.lang), .slice ub B.fields.length uc2] := hd 3 (by kernel_rfl)
                      simp only [Nat.reduceAdd, h1, h2, h3] at hK ⊢
                      go_simp
                      refine (cFB.out W hw).mono ?_
                      rintro e W' ⟨v', rfl, hil, hb'⟩
                      exact hK.out _ _ hil hb'
                    case o5 =>
                      intro vs W hw hd K hK
                      go_simp
                      exact hK.out _ _ rfl (Below.refl _ _)
                    case o6 =>
                      intro vs W hw hd K hK
                      have h5 : vs 5 = .pointer (some ⟨bA, 0, none⟩) := hd 5 (by kernel_rfl)
                      obtain ⟨x0, x1, x2, x3, x4⟩ := rcells5 (HAq.out W hw)
                      simp only [Nat.reduceAdd, h5] at hK ⊢
                      go_simp
                      exact hK.out _ _ rfl (Below.refl _ _)
                    case o7 =>
                      intro vs W hw hd K hK
                      have h6 : vs 6 = .int .i64 A.id := hd 6 (by kernel_rfl)
                      have q4 : IL (vs 4) FB W := hd 4 (by kernel_rfl)
                      simp only [Nat.reduceAdd, h6] at hK ⊢
                      go_simp
                      refine (cHB1.out (vs 4) W q4).mono ?_
                      rintro e W' ⟨rfl, hb'⟩
                      exact hK.out _ _ rfl (by rw [hb']; exact Below.refl _ _)
                    case o8 =>
                      intro vs W hw hd K hK
                      have h0 : vs 0 = .bool ff := hd 0 (by kernel_rfl)
                      have h7 : vs 7 = .bool ff := hd 7 (by kernel_rfl)
                      simp only [Nat.reduceAdd, h0, h7] at hK ⊢
                      go_simp
                      exact hK.out _ _ rfl (Below.refl _ _)
                    case o9 =>
                      intro vs W hw hd K hK
                      have h8 : vs 8 = .bool false := hd 8 (by kernel_rfl)
                      simp only [Nat.reduceAdd, h8] at hK ⊢
                      go_simp
                      exact hK.out _ _ rfl (Below.refl _ _)
                    case o10 =>
                      intro vs W hw hd K hK
                      have h9 : vs 9 = .bool false := hd 9 (by kernel_rfl)
                      simp only [Nat.reduceAdd, h9] at hK ⊢
                      go_simp
                      exact hK.out _ _ rfl (Below.refl _ _)
                    case o11 =>
                      intro vs W hw hd K hK
                      have h9 : vs 9 = .bool false := hd 9 (by kernel_rfl)
                      obtain ⟨m0, m1⟩ := mcells2 (HMq.out W hw)
                      simp only [Nat.reduceAdd, h9] at hK ⊢
                      go_simp
                      exact hK.out _ _ rfl (Below.refl _ _)
                    case o12 =>
                      intro vs W hw hd K hK
                      have h9 : vs 9 = .bool false := hd 9 (by kernel_rfl)
                      obtain ⟨x0, x1, x2, x3, x4⟩ := rcells5 (HAq.out W hw)
                      simp only [Nat.reduceAdd, h9] at hK ⊢
                      go_simp
                      exact hK.out _ _ rfl (Below.refl _ _)
                    case o13 =>
                      intro vs W hw hd K hK
                      have h9 : vs 9 = .bool false := hd 9 (by kernel_rfl)
                      obtain ⟨y0, y1, y2, y3, y4⟩ := rcells5 (HBq.out W hw)
                      simp only [Nat.reduceAdd, h9] at hK ⊢
                      go_simp
                      exact hK.out _ _ rfl (Below.refl _ _)
                    case o14 =>
                      intro vs W hw hd K hK
                      have h9 : vs 9 = .bool false := hd 9 (by kernel_rfl)
                      have h11 : vs 11 = .agg #[.slice ma mn mc, .int .i64 m.need] := hd 11 (by kernel_rfl)
                      have h12 : vs 12 = .agg #[.int .i64 A.id, .int .i64 A.ver, .int .i64 A.kind, .string (S A.lang), .slice ua A.fields.length uc] := hd 12 (by kernel_rfl)
                      have h13 : vs 13 = .agg #[.int .i64 B.id, .int .i64 B.ver, .int .i64 B.kind, .string (S B.lang), .slice ub B.fields.length uc2] := hd 13 (by kernel_rfl)
                      simp only [Nat.reduceAdd, h9, h11, h12, h13] at hK ⊢
                      go_simp
                      refine (cAB.out W hw).mono ?_
                      rintro e W' ⟨rfl, hb'⟩
                      exact hK.out _ _ rfl hb'
                    case o15 =>
                      intro vs W hw hd K hK
                      have h9 : vs 9 = .bool false := hd 9 (by kernel_rfl)
                      simp only [Nat.reduceAdd, h9] at hK ⊢
                      go_simp
                      exact hK.out _ _ rfl (Below.refl _ _)
                    case o16 =>
                      intro vs W hw hd K hK
                      have h9 : vs 9 = .bool false := hd 9 (by kernel_rfl)
                      have h15 : vs 15 = .pointer (some ⟨w.heap.size, 1, none⟩) := hd 15 (by kernel_rfl)
                      obtain ⟨m0, m1⟩ := mcells2 (HMq.out W hw)
                      simp only [Nat.reduceAdd, h9, h15] at hK ⊢
                      go_simp
                      exact hK.out _ _ rfl (Below.refl _ _)
                    case o17 =>
                      intro vs W hw hd K hK
                      have h9 : vs 9 = .bool false := hd 9 (by kernel_rfl)
                      have h14 : vs 14 = .int .i64 sc := hd 14 (by kernel_rfl)
                      have h16 : vs 16 = .int .i64 m.need := hd 16 (by kernel_rfl)
                      have hq := HFF.out
                      simp only [Nat.reduceAdd, h9, h14, h16] at hK ⊢
                      go_simp
                      exact hK.out _ _ rfl (Below.refl _ _)
                    case o18 =>
                      intro vs W hw hd K hK
                      have h9 : vs 9 = .bool false := hd 9 (by kernel_rfl)
                      have h10 : vs 10 = .bool ff := hd 10 (by kernel_rfl)
                      have h17 : vs 17 = .bool ff := hd 17 (by kernel_rfl)
                      simp only [Nat.reduceAdd, h9, h10, h17] at hK ⊢
                      go_simp
                      exact hK.out _ _ rfl (Below.refl _ _)
                    case o19 =>
                      intro vs W hw hd K hK
                      have h9 : vs 9 = .bool false := hd 9 (by kernel_rfl)
                      have h18 : vs 18 = .bool false := hd 18 (by kernel_rfl)
                      simp only [Nat.reduceAdd, h9, h18] at hK ⊢
                      go_simp
                      exact hK.out _ _ rfl (Below.refl _ _)
                  case hfin =>
                    intro vs W3 hw hd
                    have h19 : vs 19 = .bool false := hd 19 (by decide)
                    simp only [Nat.reduceAdd, h19]
                    have HbW := Lib.hid (HBX.out W3 hw)
                    clear hd h19 hw
                    cases ff with
                    | false =>
                      have HC1 : RowKit.Hid (c = cntM m l i (k + 1)) := by rw [HCz.out]; rfl
                      go_wp2
                      go_roundw
                      case rel => exact ⟨c, k + 1, by go_num, by omega, rfl, HC1.out, HbW.out⟩
                      case measure => simp [intOf]; omega
                    | true =>
                      have HC1 : RowKit.Hid (c + 1 = cntM m l i (k + 1)) := by rw [HCz.out]; rfl
                      go_wp2
                      go_roundw
                      case rel => exact ⟨c + 1, k + 1, by go_num, by omega, by go_num, HC1.out, HbW.out⟩
                      case measure => simp [intOf]; omega
          · obtain rfl : k = n := by omega
            have HC1 : RowKit.Hid (c = cntM m l (i + 1) 0) := by rw [HCnx.out]; exact HCd.out
            have HB1 := Lib.hid HBr.out
            clear HBr HCd
            go_wp2
            go_roundw
            case rel => exact ⟨c, i + 1, by go_num, by omega, rfl, HC1.out, HB1.out⟩
            case measure => simp [intOf]; omega
      · obtain rfl : i = n := by omega
        have HF := Lib.hid (HBw.out wr HB.out)
        have hcc : c = cn := by rw [HCc.out]; exact HCn2.out
        have tl : ((c : Int) == (cn : Int)) = true := by rw [hcc]; simp
        clear hcc HB HCc
        go_wp2
        first | exact ⟨rfl, HF.out⟩ | (go_ret; exact ⟨rfl, HF.out⟩)
  · have hrb : (rr != 0) = true := by simpa using hr
    have HF := Lib.hid (HBw.out w2 B2.out)
    clear cPx cFx cSx HHas HZ cAl
    go_wp2
    first | exact ⟨rfl, HF.out⟩ | (go_ret; exact ⟨rfl, HF.out⟩)
end

end Go.Proofs.YtfjfpefpdlecbaaGreatDoor
