/- Merged: KQ14. -/
import Derived.Test.YthjdopnoophigaaGreatDoorQ24
import Derived.Test.YthjdopnoophigaaGreatDoorQ31
import Derived.Test.YthjdopnoophigaaGreatDoorQ26
import Derived.Test.YthjdopnoophigaaGreatDoorQ04
namespace Go.Proofs.YthjdopnoophigaaGreatDoor

section
open Go.RowKit Go.PlainAid
set_option maxHeartbeats 16000000 in
set_option maxRecDepth 100000 in
theorem followed_any (la : Value) (L : List Au) (f : Fld) (v : Value) (W00 : World) (hE : Env W00) (hA : AL la L W00) (hbn : bnd L) (hr : rightA L = 0) (hq : QL v f.subs W00) (hok : okF f)
    (hh : ∀ a, getA L f.auth = some a → validT a.heading = true ∧ a.heading.length ≤ 10000) :
    Calls Tryz.prog 64 #[la, FV f v] W00 fun e W' => ∃ u', e = .returned (FV (followX L f) u') ∧ Res14 W00 v f (followX L f) u' W' ∧ Below W00.heap.size W00 W' := by
  obtain ⟨Q, hQ⟩ : ∃ Q, (fun (e : Ending) (W' : World) => ∃ u', e = .returned (FV (followX L f) u') ∧ Res14 W00 v f (followX L f) u' W' ∧ Below W00.heap.size W00 W') = Q := ⟨_, rfl⟩
  rw [hQ]
  obtain ⟨W0, hW0⟩ : ∃ W0, (W00.alloc (.cells #[.string (S f.tag), .string (S f.ind), v, .int .i64 f.auth] 24)).alloc (.cells #[.string ⟨#[]⟩, .string ⟨#[]⟩, .slice none 0 0, .int .i64 0] 24) = W0 := ⟨_, rfl⟩
  have b0 : Below W00.heap.size W00 W0 := by rw [← hW0]; exact ((Below.refl W00.heap.size W00).alloc (Nat.le_refl _) _).alloc (by simp) _
  have hsz0 : W0.heap.size = W00.heap.size + 2 := by rw [← hW0]; simp
  have hF : W0.heap[W00.heap.size]? = some (.cells #[.string (S f.tag), .string (S f.ind), v, .int .i64 f.auth] 24 (0, 0)) := by
    rw [← hW0]
    exact (Below.heap_alloc _ _ _ (by simp)).trans (heap_alloc_new W00 _)
  have hR : W0.heap[W00.heap.size + 1]? = some (.cells #[.string ⟨#[]⟩, .string ⟨#[]⟩, .slice none 0 0, .int .i64 0] 24 (0, 0)) := by
    rw [← hW0]
    have := heap_alloc_new (W00.alloc (.cells #[.string (S f.tag), .string (S f.ind), v, .int .i64 f.auth] 24)) (.cells #[.string ⟨#[]⟩, .string ⟨#[]⟩, .slice none 0 0, .int .i64 0] 24)
    simpa using this
  have HFx0 := Lib.hid (fun (W : World) (h : Below W0.heap.size W0 W) => (h.block W00.heap.size (by omega)).trans hF)
  have HR0 := Lib.hid (fun (W : World) (h : Below W0.heap.size W0 W) => (h.block (W00.heap.size + 1) (by omega)).trans hR)
  have HBel := Lib.hid (fun (W : World) (h : Below W0.heap.size W0 W) => b0.trans (h.mono b0.size))
  obtain ⟨⟨p0, p1, p2, p3⟩, q0, q1, q2, q3⟩ := fcells4 hF
  have hQe : ∀ W1, followX L f = f → W1.heap[W00.heap.size + 1]? = some (.cells #[.string ⟨#[]⟩, .string ⟨#[]⟩, .slice none 0 0, .int .i64 0] 24 (0, 0)) → Below W00.heap.size W00 W1 →
      (setF4 W1 (W00.heap.size + 1) (.string (S f.tag)) (.string (S f.ind)) v (.int .i64 f.auth)).heap[W00.heap.size + 1]? = some (.cells #[.string (S f.tag), .string (S f.ind), v, .int .i64 f.auth] 24 (0, 0)) ∧
      Q (.returned (.agg #[.string (S f.tag), .string (S f.ind), v, .int .i64 f.auth])) (setF4 W1 (W00.heap.size + 1) (.string (S f.tag)) (.string (S f.ind)) v (.int .i64 f.auth)) := by
    intro W1 hx hR1 hb1
    obtain ⟨h1, h3⟩ := auth_end (f := f) (v := v) f.auth hR1 hb1
    refine ⟨h1, ?_⟩
    rw [← hQ]
    exact ⟨v, by rw [hx]; rfl, .inl ⟨rfl, by rw [hx]⟩, h3⟩
  have HQ := Lib.hid hQe
  have HP : RowKit.Hid (∀ (h : List UInt8) (ao : Option Addr) (m cp : Nat) W1, followX L f = putX f h → W1.heap[W00.heap.size + 1]? = some (.cells #[.string ⟨#[]⟩, .string ⟨#[]⟩, .slice none 0 0, .int .i64 0] 24 (0, 0)) → Below W00.heap.size W00 W1 → SB (W00.heap.size + 2) (.slice ao m cp) (putX f h).subs W1 →
      (setF4 W1 (W00.heap.size + 1) (.string (S f.tag)) (.string (S f.ind)) (.slice ao m cp) (.int .i64 f.auth)).heap[W00.heap.size + 1]? = some (.cells #[.string (S f.tag), .string (S f.ind), .slice ao m cp, .int .i64 f.auth] 24 (0, 0)) ∧
      Q (.returned (.agg #[.string (S f.tag), .string (S f.ind), .slice ao m cp, .int .i64 f.auth])) (setF4 W1 (W00.heap.size + 1) (.string (S f.tag)) (.string (S f.ind)) (.slice ao m cp) (.int .i64 f.auth))) := by
    intro h ao m cp W1 hx hR1 hb1 hsb
    refine ⟨setF4_heap hR1, ?_⟩
    rw [← hQ]
    refine ⟨_, by rw [hx]; rfl, ?_, setF4_below hb1 (Nat.le_succ _) _ _ _ _⟩
    rw [hx]
    exact .inr (((hsb.kept (fun i hi _ => setF4_other _ _ _ _ i (by omega))).new).mono (by omega))
  have cG := Lib.hid (get_any la L f.auth W0 W0 (Below.refl _ _) (hA.after b0) hbn hr)
  have cKk := Lib.hid (fun (W : World) (h : Below W00.heap.size W00 W) => pKind_any f.tag W (hE.after h).std)
  have cHh := Lib.hid (fun (W : World) (h : Below W00.heap.size W00 W) => pHeading_any f v W (hE.after h).std (hq.after h) hok)
  obtain ⟨oa, hoa⟩ : ∃ oa, getA L f.auth = oa := ⟨_, rfl⟩
  obtain ⟨a, ha⟩ : ∃ a, oa.getD au0 = a := ⟨_, rfl⟩
  obtain ⟨ok, hokb⟩ : ∃ ok, oa.isSome = ok := ⟨_, rfl⟩
  have hh2 : ok = true → validT a.heading = true ∧ a.heading.length ≤ 10000 := by
    intro h
    rw [← hokb] at h
    obtain ⟨b, rfl⟩ := Option.isSome_iff_exists.1 h
    rw [← ha]
    exact hh b hoa
  have cPuu : RowKit.Hid (ok = true → ∀ (W : World), Below W00.heap.size W00 W → Calls Tryz.prog 11 #[FV f v, .string (S a.heading)] W fun e w' => ∃ v', e = .returned (.agg #[.string (S f.tag), .string (S f.ind), v', .int .i64 f.auth]) ∧ SB (W.heap.size + 2) v' (putX f a.heading).subs w' ∧ Below W.heap.size W w') :=
    fun h W hb => pPut_any f v a.heading (hh2 h).1 (hh2 h).2 W (hE.after hb) (hq.after hb) (Nat.le_trans hok.1 (by decide))
  have hfx : followX L f = if ok = true then (if a.kind = kindX f.tag then (if a.heading = headX f then f else putX f a.heading) else f) else f := by
    unfold followX
    rw [hoa, hokb, ha]
  have HW0 := Lib.hid hW0
  obtain ⟨va, vc, hla, hm1, hm2⟩ := hA.length
  obtain ⟨au, cp, hv, -, -⟩ := hq.length
  rw [hoa, ha, hokb] at cG
  have HEq0 : RowKit.Hid (((S a.heading).toList == (S (headX f)).toList) = decide (a.heading = headX f)) := S_eq12 _ _
  have HSB := Lib.hid (show ∀ W : World, Below W00.heap.size W00 W → W00.heap.size + 2 ≤ W.heap.size + 2 from fun W h => by have := h.size; omega)
  unfold FV at *
  unfold AV at cG
  subst hla hv
  clear hQ hW0 hF hR b0 hq hE hA hok hh hh2 hQe hoa ha hokb
  generalize f.subs.length = n at *
  generalize L.length = m at *
  obtain ⟨FX, hFX⟩ : ∃ FX, followX L f = FX := ⟨_, rfl⟩
  rw [hFX] at hfx HQ HP
  have hab : FX = if ok = true then (if a.kind = kindX f.tag then (if decide (a.heading = headX f) = true then f else putX f a.heading) else f) else f := by
    rw [hfx]
    simp only [decide_eq_true_eq]
  obtain ⟨hq, hhq⟩ : ∃ b, decide (a.heading = headX f) = b := ⟨_, rfl⟩
  rw [hhq] at hab HEq0
  clear hfx hFX hhq
  generalize kindX f.tag = kd at *
  generalize S (headX f) = hx at *
  have HHb := Lib.hid hab
  clear hab
  have HPX := Lib.hid (fun (h : FX = putX f a.heading) ao m cp W1 h1 h2 h3 => HP.out a.heading ao m cp W1 h h1 h2 h3)
  go_enter Tryz.func64, Tryz.ntmps64
  go_upto_region 1 with fail
  rw [HW0.out]
  clear HW0
  go_wp2_with fail
  refine cG.out.mono ?_
  rintro e w1 ⟨sv, tv, rfl, hkp, hb1⟩
  have hAN := hkp w1 (Kp.self (Below.refl _ _) hb1)
  obtain ⟨sa, sc, hsv, -, -⟩ := hAN.1.length
  obtain ⟨ta, tc, htv, -⟩ := hAN.2
  subst hsv htv
  clear hkp hAN cG p0 p1 p2 p3 q0 q1 q2 q3
  go_upto_region 2 with fail
  obtain ⟨w2, hw2⟩ : ∃ w2, w1.alloc (.cells #[.int .i64 a.id, .int .i64 a.kind, .string (S a.heading), .slice sa a.see.length sc, .slice ta a.above.length tc] 56) = w2 := ⟨_, rfl⟩
  have hb2 : Below W0.heap.size W0 w2 := by rw [← hw2]; exact hb1.alloc hb1.size _
  have hAx : w2.heap[w1.heap.size]? = some (.cells #[.int .i64 a.id, .int .i64 a.kind, .string (S a.heading), .slice sa a.see.length sc, .slice ta a.above.length tc] 56 (0, 0)) := by rw [← hw2]; exact heap_alloc_new w1 _
  have hlt2 : w1.heap.size < w2.heap.size := by rw [← hw2]; simp
  rw [hw2]
  have HAx := Lib.hid (fun (W : World) (h : Below w2.heap.size w2 W) => (h.block w1.heap.size hlt2).trans hAx)
  have HFx := Lib.hid (fun (W : World) (h : Below w2.heap.size w2 W) => HFx0.out W (hb2.trans (h.mono hb2.size)))
  have HRx := Lib.hid (fun (W : World) (h : Below w2.heap.size w2 W) => HR0.out W (hb2.trans (h.mono hb2.size)))
  have HBx := Lib.hid (fun (W : World) (h : Below w2.heap.size w2 W) => HBel.out W (hb2.trans (h.mono hb2.size)))
  have cK := Lib.hid (fun (W : World) (h : Below w2.heap.size w2 W) => cKk.out W (HBx.out W h))
  have cH := Lib.hid (fun (W : World) (h : Below w2.heap.size w2 W) => cHh.out W (HBx.out W h))
  clear hb1 hb2 hlt2 hw2 hAx HFx0 HR0 HBel cKk cHh HP
  have HP := Lib.hid HPX.out
  clear HPX
  generalize w1.heap.size = ba at *
  generalize a.see.length = sn at *
  generalize a.above.length = an at *
  generalize S a.heading = ah at *
  generalize a.kind = ak at *
  generalize a.id = ai at *
  generalize S f.tag = t0 at *
  generalize S f.ind = t1 at *
  generalize f.auth = t3 at *
  cases ok
  · go_cut [30] from 14 to 30 (fun s30 wx => s30 = .bool true ∧ RowKit.Hid (Below w2.heap.size w2 wx))
    case first =>
      apply wp_region_inv (V := [.eq (.bool false), .eq (.bool true), .eq (.bool true), .eq (undef), .eq (undef), .eq (undef), .eq (undef), .eq (undef), .eq (undef), .eq (.bool true), .eq (.bool true), .eq (undef), .eq (undef), .eq (undef), .eq (undef), .eq (undef), .eq (.bool true)])
      case hm => kernel_rfl
      case hd => kernel_rfl
      case hb => kernel_rfl
      case hA =>
        intro vs
        simp only [puts, Act.put, List.setIfInBounds_toArray, List.set_cons_zero, List.set_cons_succ]
        exact rfl
      case hob =>
        refine Obs.cons _ _ _ _ _ _ ?o0 (Obs.cons _ _ _ _ _ _ ?o1 (Obs.cons _ _ _ _ _ _ ?o2 (Obs.cons _ _ _ _ _ _ ?o3 (Obs.cons _ _ _ _ _ _ ?o4 (Obs.cons _ _ _ _ _ _ ?o5 (Obs.cons _ _ _ _ _ _ ?o6 (Obs.cons _ _ _ _ _ _ ?o7 (Obs.cons _ _ _ _ _ _ ?o8 (Obs.cons _ _ _ _ _ _ ?o9 (Obs.cons _ _ _ _ _ _ ?o10 (Obs.cons _ _ _ _ _ _ ?o11 (Obs.cons _ _ _ _ _ _ ?o12 (Obs.cons _ _ _ _ _ _ ?o13 (Obs.cons _ _ _ _ _ _ ?o14 (Obs.cons _ _ _ _ _ _ ?o15 (Obs.cons _ _ _ _ _ _ ?o16 (Obs.nil _ _ _ _ _ _)))))))))))))))))
        case o0 =>
          intro vs W hw hd K hK
          go_simp
          exact hK.out _ _ rfl (Below.refl _ _)
        case o1 =>
          intro vs W hw hd K hK
          have h0 : vs 0 = .bool false := hd 0 (by kernel_rfl)
          simp only [Nat.reduceAdd, h0] at hK ⊢
          go_simp
          exact hK.out _ _ rfl (Below.refl _ _)
        case o2 =>
          intro vs W hw hd K hK
          have h1 : vs 1 = .bool true := hd 1 (by kernel_rfl)
          simp only [Nat.reduceAdd, h1] at hK ⊢
          go_simp
          exact hK.out _ _ rfl (Below.refl _ _)
        case o3 =>
          intro vs W hw hd K hK
          have h2 : vs 2 = .bool true := hd 2 (by kernel_rfl)
          simp only [Nat.reduceAdd, h2] at hK ⊢
          go_simp
          exact hK.out _ _ rfl (Below.refl _ _)
        case o4 =>
          intro vs W hw hd K hK
          have h2 : vs 2 = .bool true := hd 2 (by kernel_rfl)
          simp only [Nat.reduceAdd, h2] at hK ⊢
          go_simp
          exact hK.out _ _ rfl (Below.refl _ _)
        case o5 =>
          intro vs W hw hd K hK
          have h2 : vs 2 = .bool true := hd 2 (by kernel_rfl)
          simp only [Nat.reduceAdd, h2] at hK ⊢
          go_simp
          exact hK.out _ _ rfl (Below.refl _ _)
        case o6 =>
          intro vs W hw hd K hK
          have h2 : vs 2 = .bool true := hd 2 (by kernel_rfl)
          simp only [Nat.reduceAdd, h2] at hK ⊢
          go_simp
          exact hK.out _ _ rfl (Below.refl _ _)
        case o7 =>
          intro vs W hw hd K hK
          have h2 : vs 2 = .bool true := hd 2 (by kernel_rfl)
          simp only [Nat.reduceAdd, h2] at hK ⊢
          go_simp
          exact hK.out _ _ rfl (Below.refl _ _)
        case o8 =>
          intro vs W hw hd K hK
          have h2 : vs 2 = .bool true := hd 2 (by kernel_rfl)
          simp only [Nat.reduceAdd, h2] at hK ⊢
          go_simp
          exact hK.out _ _ rfl (Below.refl _ _)
        case o9 =>
          intro vs W hw hd K hK
          have h2 : vs 2 = .bool true := hd 2 (by kernel_rfl)
          have h8 : vs 8 = undef := hd 8 (by kernel_rfl)
          simp only [Nat.reduceAdd, h2, h8] at hK ⊢
          go_simp
          exact hK.out _ _ rfl (Below.refl _ _)
        case o10 =>
          intro vs W hw hd K hK
          have h9 : vs 9 = .bool true := hd 9 (by kernel_rfl)
          simp only [Nat.reduceAdd, h9] at hK ⊢
          go_simp
          exact hK.out _ _ rfl (Below.refl _ _)
        case o11 =>
          intro vs W hw hd K hK
          have h10 : vs 10 = .bool true := hd 10 (by kernel_rfl)
          simp only [Nat.reduceAdd, h10] at hK ⊢
          go_simp
          exact hK.out _ _ rfl (Below.refl _ _)
        case o12 =>
          intro vs W hw hd K hK
          have h10 : vs 10 = .bool true := hd 10 (by kernel_rfl)
          simp only [Nat.reduceAdd, h10] at hK ⊢
          go_simp
          exact hK.out _ _ rfl (Below.refl _ _)
        case o13 =>
          intro vs W hw hd K hK
          have h10 : vs 10 = .bool true := hd 10 (by kernel_rfl)
          simp only [Nat.reduceAdd, h10] at hK ⊢
          go_simp
          exact hK.out _ _ rfl (Below.refl _ _)
        case o14 =>
          intro vs W hw hd K hK
          have h10 : vs 10 = .bool true := hd 10 (by kernel_rfl)
          simp only [Nat.reduceAdd, h10] at hK ⊢
          go_simp
          exact hK.out _ _ rfl (Below.refl _ _)
        case o15 =>
          intro vs W hw hd K hK
          have h10 : vs 10 = .bool true := hd 10 (by kernel_rfl)
          simp only [Nat.reduceAdd, h10] at hK ⊢
          go_simp
          exact hK.out _ _ rfl (Below.refl _ _)
        case o16 =>
          intro vs W hw hd K hK
          have h10 : vs 10 = .bool true := hd 10 (by kernel_rfl)
          have h15 : vs 15 = undef := hd 15 (by kernel_rfl)
          simp only [Nat.reduceAdd, h10, h15] at hK ⊢
          go_simp
          exact hK.out _ _ rfl (Below.refl _ _)
      case hfin =>
        intro vs W hw hd
        have h16 : vs 16 = .bool true := hd 16 (by decide)
        simp only [Nat.reduceAdd, h16]
        go_wp2_with fail
        go_meet
        exact ⟨rfl, hw⟩
    case rest =>
      have cPu : True := trivial
      obtain ⟨rfl, HW⟩ := hcut
      have hFw := HFx.out _ HW.out
      have hRw := HRx.out _ HW.out
      obtain ⟨⟨p0, p1, p2, p3⟩, q0, q1, q2, q3⟩ := fcells4 hFw
      obtain ⟨⟨r0, r1, r2, r3⟩, s0, s1, s2, s3⟩ := fcells4 hRw
      have hF1 : FX = f := by rw [HHb.out]; rfl
      obtain ⟨hfin, hg⟩ := HQ.out _ hF1 hRw (HBx.out _ HW.out)
      unfold setF4 at hfin hg
      have HFin := Lib.hid hfin
      have HG := Lib.hid hg
      clear hfin hg HQ HP HFx HRx HBx HAx hFw hRw HW cK cH cPu
      go_wp2
      (try simp only [Exit.inBlock, Exit.then])
      refine bodyPost_ret (results_cell_row rfl _ _ (W00.heap.size + 1) _ _ _ _ rfl HFin.out Tryz.underlying24 rfl (by kernel_rfl)) rfl ?_
      exact HG.out
  · have cPu := Lib.hid (fun (W : World) (h : Below w2.heap.size w2 W) => cPuu.out (by simp) W (HBx.out W h))
    by_cases hkk : ak = kd
    · subst hkk
      have hF2 : FX = if hq = true then f else putX f a.heading := by rw [HHb.out, if_pos rfl, if_pos rfl]
      have HF2 := Lib.hid hF2
      have HEq := Lib.hid HEq0.out
      clear hF2 HHb cPuu HEq0
      go_cut [30] from 14 to 30 (fun s30 wx => s30 = .bool hq ∧ RowKit.Hid (Below w2.heap.size w2 wx))
      case first =>
        apply wp_region_inv (V := [.eq (.bool true), .eq (.bool false), .eq (.bool false), .eq (.pointer (some ⟨ba, 1, none⟩)), .eq (.int .i64 ak), .eq (.pointer (some ⟨W00.heap.size, 0, none⟩)), .eq (.string t0), .eq (.int .i64 ak), .eq (.bool false), .eq (.bool false), .eq (.bool false), .eq (.pointer (some ⟨ba, 2, none⟩)), .eq (.string ah), .eq (.agg #[.string t0, .string t1, .slice au n cp, .int .i64 t3]), .eq (.string hx), .eq (.bool hq), .eq (.bool hq)])
        case hm => kernel_rfl
        case hd => kernel_rfl
        case hb => kernel_rfl
        case hA =>
          intro vs
          simp only [puts, Act.put, List.setIfInBounds_toArray, List.set_cons_zero, List.set_cons_succ]
          exact rfl
        case hob =>
          refine Obs.cons _ _ _ _ _ _ ?o0 (Obs.cons _ _ _ _ _ _ ?o1 (Obs.cons _ _ _ _ _ _ ?o2 (Obs.cons _ _ _ _ _ _ ?o3 (Obs.cons _ _ _ _ _ _ ?o4 (Obs.cons _ _ _ _ _ _ ?o5 (Obs.cons _ _ _ _ _ _ ?o6 (Obs.cons _ _ _ _ _ _ ?o7 (Obs.cons _ _ _ _ _ _ ?o8 (Obs.cons _ _ _ _ _ _ ?o9 (Obs.cons _ _ _ _ _ _ ?o10 (Obs.cons _ _ _ _ _ _ ?o11 (Obs.cons _ _ _ _ _ _ ?o12 (Obs.cons _ _ _ _ _ _ ?o13 (Obs.cons _ _ _ _ _ _ ?o14 (Obs.cons _ _ _ _ _ _ ?o15 (Obs.cons _ _ _ _ _ _ ?o16 (Obs.nil _ _ _ _ _ _)))))))))))))))))
          case o0 =>
            intro vs W hw hd K hK
            go_simp
            exact hK.out _ _ rfl (Below.refl _ _)
          case o1 =>
            intro vs W hw hd K hK
            have h0 : vs 0 = .bool true := hd 0 (by kernel_rfl)
            simp only [Nat.reduceAdd, h0] at hK ⊢
            go_simp
            exact hK.out _ _ rfl (Below.refl _ _)
          case o2 =>
            intro vs W hw hd K hK
            have h1 : vs 1 = .bool false := hd 1 (by kernel_rfl)
            simp only [Nat.reduceAdd, h1] at hK ⊢
            go_simp
            exact hK.out _ _ rfl (Below.refl _ _)
          case o3 =>
            intro vs W hw hd K hK
            have h2 : vs 2 = .bool false := hd 2 (by kernel_rfl)
            simp only [Nat.reduceAdd, h2] at hK ⊢
            go_simp
            exact hK.out _ _ rfl (Below.refl _ _)
          case o4 =>
            intro vs W hw hd K hK
            have h2 : vs 2 = .bool false := hd 2 (by kernel_rfl)
            have h3 : vs 3 = .pointer (some ⟨ba, 1, none⟩) := hd 3 (by kernel_rfl)
            obtain ⟨⟨a0, a1, a2, a3, a4⟩, -⟩ := acells (HAx.out W hw)
            simp only [Nat.reduceAdd, h2, h3] at hK ⊢
            go_simp
            exact hK.out _ _ rfl (Below.refl _ _)
          case o5 =>
            intro vs W hw hd K hK
            have h2 : vs 2 = .bool false := hd 2 (by kernel_rfl)
            simp only [Nat.reduceAdd, h2] at hK ⊢
            go_simp
            exact hK.out _ _ rfl (Below.refl _ _)
          case o6 =>
            intro vs W hw hd K hK
            have h2 : vs 2 = .bool false := hd 2 (by kernel_rfl)
            have h5 : vs 5 = .pointer (some ⟨W00.heap.size, 0, none⟩) := hd 5 (by kernel_rfl)
            obtain ⟨⟨p0, p1, p2, p3⟩, -⟩ := fcells4 (HFx.out W hw)
            simp only [Nat.reduceAdd, h2, h5] at hK ⊢
            go_simp
            exact hK.out _ _ rfl (Below.refl _ _)
          case o7 =>
            intro vs W hw hd K hK
            have h2 : vs 2 = .bool false := hd 2 (by kernel_rfl)
            have h6 : vs 6 = .string t0 := hd 6 (by kernel_rfl)
            simp only [Nat.reduceAdd, h2, h6] at hK ⊢
            go_simp
            refine (cK.out W hw).mono ?_
            rintro e W' ⟨rfl, hb'⟩
            exact hK.out _ _ rfl hb'
          case o8 =>
            intro vs W hw hd K hK
            have h2 : vs 2 = .bool false := hd 2 (by kernel_rfl)
            have h4 : vs 4 = .int .i64 ak := hd 4 (by kernel_rfl)
            have h7 : vs 7 = .int .i64 ak := hd 7 (by kernel_rfl)
            simp only [Nat.reduceAdd, h2, h4, h7] at hK ⊢
            go_simp
            exact hK.out _ _ rfl (Below.refl _ _)
          case o9 =>
            intro vs W hw hd K hK
            have h2 : vs 2 = .bool false := hd 2 (by kernel_rfl)
            have h8 : vs 8 = .bool false := hd 8 (by kernel_rfl)
            simp only [Nat.reduceAdd, h2, h8] at hK ⊢
            go_simp
            exact hK.out _ _ rfl (Below.refl _ _)
          case o10 =>
            intro vs W hw hd K hK
            have h9 : vs 9 = .bool false := hd 9 (by kernel_rfl)
            simp only [Nat.reduceAdd, h9] at hK ⊢
            go_simp
            exact hK.out _ _ rfl (Below.refl _ _)
          case o11 =>
            intro vs W hw hd K hK
            have h10 : vs 10 = .bool false := hd 10 (by kernel_rfl)
            simp only [Nat.reduceAdd, h10] at hK ⊢
            go_simp
            exact hK.out _ _ rfl (Below.refl _ _)
          case o12 =>
            intro vs W hw hd K hK
            have h10 : vs 10 = .bool false := hd 10 (by kernel_rfl)
            have h11 : vs 11 = .pointer (some ⟨ba, 2, none⟩) := hd 11 (by kernel_rfl)
            obtain ⟨⟨a0, a1, a2, a3, a4⟩, -⟩ := acells (HAx.out W hw)
            simp only [Nat.reduceAdd, h10, h11] at hK ⊢
            go_simp
            exact hK.out _ _ rfl (Below.refl _ _)
          case o13 =>
            intro vs W hw hd K hK
            have h10 : vs 10 = .bool false := hd 10 (by kernel_rfl)
            obtain ⟨⟨p0, p1, p2, p3⟩, -⟩ := fcells4 (HFx.out W hw)
            simp only [Nat.reduceAdd, h10] at hK ⊢
            go_simp
            exact hK.out _ _ rfl (Below.refl _ _)
          case o14 =>
            intro vs W hw hd K hK
            have h10 : vs 10 = .bool false := hd 10 (by kernel_rfl)
            have h13 : vs 13 = .agg #[.string t0, .string t1, .slice au n cp, .int .i64 t3] := hd 13 (by kernel_rfl)
            simp only [Nat.reduceAdd, h10, h13] at hK ⊢
            go_simp
            refine (cH.out W hw).mono ?_
            rintro e W' ⟨rfl, hb'⟩
            exact hK.out _ _ rfl hb'
          case o15 =>
            intro vs W hw hd K hK
            have h10 : vs 10 = .bool false := hd 10 (by kernel_rfl)
            have h12 : vs 12 = .string ah := hd 12 (by kernel_rfl)
            have h14 : vs 14 = .string hx := hd 14 (by kernel_rfl)
            have heq := HEq.out
            simp only [Nat.reduceAdd, h10, h12, h14] at hK ⊢
            go_simp
            exact hK.out _ _ rfl (Below.refl _ _)
          case o16 =>
            intro vs W hw hd K hK
            have h10 : vs 10 = .bool false := hd 10 (by kernel_rfl)
            have h15 : vs 15 = .bool hq := hd 15 (by kernel_rfl)
            simp only [Nat.reduceAdd, h10, h15] at hK ⊢
            go_simp
            exact hK.out _ _ rfl (Below.refl _ _)
        case hfin =>
          intro vs W hw hd
          have h16 : vs 16 = .bool hq := hd 16 (by decide)
          simp only [Nat.reduceAdd, h16]
          go_wp2_with fail
          go_meet
          exact ⟨rfl, hw⟩
      case rest =>
        obtain ⟨rfl, HW⟩ := hcut
        have hFw := HFx.out _ HW.out
        have hRw := HRx.out _ HW.out
        obtain ⟨⟨p0, p1, p2, p3⟩, q0, q1, q2, q3⟩ := fcells4 hFw
        obtain ⟨⟨r0, r1, r2, r3⟩, s0, s1, s2, s3⟩ := fcells4 hRw
        cases hq
        · have cpu := Lib.hid (cPu.out _ HW.out)
          have hAw := HAx.out _ HW.out
          obtain ⟨⟨a0, a1, a2, a3, a4⟩, -⟩ := acells hAw
          have HPP := Lib.hid (HP.out (by rw [HF2.out]; rfl))
          have HBw := Lib.hid (HBx.out _ HW.out)
          have HRw := Lib.hid (fun (W : World) (h : Below wc.heap.size wc W) => HRx.out W (HW.out.trans (h.mono HW.out.size)))
          clear HP HQ cK cH cPu HFx HRx HBx HAx hFw hRw hAw HF2 HEq r0 r1 r2 r3 s0 s1 s2 s3
          go_wp2_with fail
          refine cpu.out.mono ?_
          rintro e w6 ⟨v', rfl, hs6, hb6⟩
          have hR6 := HRw.out w6 hb6
          obtain ⟨⟨r0, r1, r2, r3⟩, s0, s1, s2, s3⟩ := fcells4 hR6
          obtain ⟨ao, c6, rfl⟩ := hs6.form
          obtain ⟨hfin, hg⟩ := HPP.out ao _ c6 w6 hR6 (HBw.out.trans (hb6.mono HBw.out.size)) (hs6.base (by have := HBw.out.size; omega))
          unfold setF4 at hfin hg
          have HFin := Lib.hid hfin
          have HG := Lib.hid hg
          clear hfin hg hs6 hb6 HPP hR6 cpu
          generalize (putX f a.heading).subs.length = pn at *
          go_wp2
          (try simp only [Exit.inBlock, Exit.then])
          refine bodyPost_ret (results_cell_row rfl _ _ (W00.heap.size + 1) _ _ _ _ rfl HFin.out Tryz.underlying24 rfl (by kernel_rfl)) rfl ?_
          exact HG.out
        · have hF1 : FX = f := by rw [HF2.out]; rfl
          obtain ⟨hfin, hg⟩ := HQ.out _ hF1 hRw (HBx.out _ HW.out)
          unfold setF4 at hfin hg
          have HFin := Lib.hid hfin
          have HG := Lib.hid hg
          clear hfin hg HQ HP HFx HRx HBx HAx hFw hRw HW cK cH cPu
          go_wp2
          (try simp only [Exit.inBlock, Exit.then])
          refine bodyPost_ret (results_cell_row rfl _ _ (W00.heap.size + 1) _ _ _ _ rfl HFin.out Tryz.underlying24 rfl (by kernel_rfl)) rfl ?_
          exact HG.out
    · have hF1 : FX = f := by rw [HHb.out, if_pos rfl, if_neg hkk]
      have t : (ak != kd) = true := by simpa using hkk
      have HF1 := Lib.hid hF1
      clear hkk hF1
      go_cut [30] from 14 to 30 (fun s30 wx => s30 = .bool true ∧ RowKit.Hid (Below w2.heap.size w2 wx))
      case first =>
        apply wp_region_inv (V := [.eq (.bool true), .eq (.bool false), .eq (.bool false), .eq (.pointer (some ⟨ba, 1, none⟩)), .eq (.int .i64 ak), .eq (.pointer (some ⟨W00.heap.size, 0, none⟩)), .eq (.string t0), .eq (.int .i64 kd), .eq (.bool true), .eq (.bool true), .eq (.bool true), .eq (undef), .eq (undef), .eq (undef), .eq (undef), .eq (undef), .eq (.bool true)])
        case hm => kernel_rfl
        case hd => kernel_rfl
        case hb => kernel_rfl
        case hA =>
          intro vs
          simp only [puts, Act.put, List.setIfInBounds_toArray, List.set_cons_zero, List.set_cons_succ]
          exact rfl
        case hob =>
          refine Obs.cons _ _ _ _ _ _ ?o0 (Obs.cons _ _ _ _ _ _ ?o1 (Obs.cons _ _ _ _ _ _ ?o2 (Obs.cons _ _ _ _ _ _ ?o3 (Obs.cons _ _ _ _ _ _ ?o4 (Obs.cons _ _ _ _ _ _ ?o5 (Obs.cons _ _ _ _ _ _ ?o6 (Obs.cons _ _ _ _ _ _ ?o7 (Obs.cons _ _ _ _ _ _ ?o8 (Obs.cons _ _ _ _ _ _ ?o9 (Obs.cons _ _ _ _ _ _ ?o10 (Obs.cons _ _ _ _ _ _ ?o11 (Obs.cons _ _ _ _ _ _ ?o12 (Obs.cons _ _ _ _ _ _ ?o13 (Obs.cons _ _ _ _ _ _ ?o14 (Obs.cons _ _ _ _ _ _ ?o15 (Obs.cons _ _ _ _ _ _ ?o16 (Obs.nil _ _ _ _ _ _)))))))))))))))))
          case o0 =>
            intro vs W hw hd K hK
            go_simp
            exact hK.out _ _ rfl (Below.refl _ _)
          case o1 =>
            intro vs W hw hd K hK
            have h0 : vs 0 = .bool true := hd 0 (by kernel_rfl)
            simp only [Nat.reduceAdd, h0] at hK ⊢
            go_simp
            exact hK.out _ _ rfl (Below.refl _ _)
          case o2 =>
            intro vs W hw hd K hK
            have h1 : vs 1 = .bool false := hd 1 (by kernel_rfl)
            simp only [Nat.reduceAdd, h1] at hK ⊢
            go_simp
            exact hK.out _ _ rfl (Below.refl _ _)
          case o3 =>
            intro vs W hw hd K hK
            have h2 : vs 2 = .bool false := hd 2 (by kernel_rfl)
            simp only [Nat.reduceAdd, h2] at hK ⊢
            go_simp
            exact hK.out _ _ rfl (Below.refl _ _)
          case o4 =>
            intro vs W hw hd K hK
            have h2 : vs 2 = .bool false := hd 2 (by kernel_rfl)
            have h3 : vs 3 = .pointer (some ⟨ba, 1, none⟩) := hd 3 (by kernel_rfl)
            obtain ⟨⟨a0, a1, a2, a3, a4⟩, -⟩ := acells (HAx.out W hw)
            simp only [Nat.reduceAdd, h2, h3] at hK ⊢
            go_simp
            exact hK.out _ _ rfl (Below.refl _ _)
          case o5 =>
            intro vs W hw hd K hK
            have h2 : vs 2 = .bool false := hd 2 (by kernel_rfl)
            simp only [Nat.reduceAdd, h2] at hK ⊢
            go_simp
            exact hK.out _ _ rfl (Below.refl _ _)
          case o6 =>
            intro vs W hw hd K hK
            have h2 : vs 2 = .bool false := hd 2 (by kernel_rfl)
            have h5 : vs 5 = .pointer (some ⟨W00.heap.size, 0, none⟩) := hd 5 (by kernel_rfl)
            obtain ⟨⟨p0, p1, p2, p3⟩, -⟩ := fcells4 (HFx.out W hw)
            simp only [Nat.reduceAdd, h2, h5] at hK ⊢
            go_simp
            exact hK.out _ _ rfl (Below.refl _ _)
          case o7 =>
            intro vs W hw hd K hK
            have h2 : vs 2 = .bool false := hd 2 (by kernel_rfl)
            have h6 : vs 6 = .string t0 := hd 6 (by kernel_rfl)
            simp only [Nat.reduceAdd, h2, h6] at hK ⊢
            go_simp
            refine (cK.out W hw).mono ?_
            rintro e W' ⟨rfl, hb'⟩
            exact hK.out _ _ rfl hb'
          case o8 =>
            intro vs W hw hd K hK
            have h2 : vs 2 = .bool false := hd 2 (by kernel_rfl)
            have h4 : vs 4 = .int .i64 ak := hd 4 (by kernel_rfl)
            have h7 : vs 7 = .int .i64 kd := hd 7 (by kernel_rfl)
            simp only [Nat.reduceAdd, h2, h4, h7] at hK ⊢
            go_simp
            exact hK.out _ _ rfl (Below.refl _ _)
          case o9 =>
            intro vs W hw hd K hK
            have h2 : vs 2 = .bool false := hd 2 (by kernel_rfl)
            have h8 : vs 8 = .bool true := hd 8 (by kernel_rfl)
            simp only [Nat.reduceAdd, h2, h8] at hK ⊢
            go_simp
            exact hK.out _ _ rfl (Below.refl _ _)
          case o10 =>
            intro vs W hw hd K hK
            have h9 : vs 9 = .bool true := hd 9 (by kernel_rfl)
            simp only [Nat.reduceAdd, h9] at hK ⊢
            go_simp
            exact hK.out _ _ rfl (Below.refl _ _)
          case o11 =>
            intro vs W hw hd K hK
            have h10 : vs 10 = .bool true := hd 10 (by kernel_rfl)
            simp only [Nat.reduceAdd, h10] at hK ⊢
            go_simp
            exact hK.out _ _ rfl (Below.refl _ _)
          case o12 =>
            intro vs W hw hd K hK
            have h10 : vs 10 = .bool true := hd 10 (by kernel_rfl)
            simp only [Nat.reduceAdd, h10] at hK ⊢
            go_simp
            exact hK.out _ _ rfl (Below.refl _ _)
          case o13 =>
            intro vs W hw hd K hK
            have h10 : vs 10 = .bool true := hd 10 (by kernel_rfl)
            simp only [Nat.reduceAdd, h10] at hK ⊢
            go_simp
            exact hK.out _ _ rfl (Below.refl _ _)
          case o14 =>
            intro vs W hw hd K hK
            have h10 : vs 10 = .bool true := hd 10 (by kernel_rfl)
            simp only [Nat.reduceAdd, h10] at hK ⊢
            go_simp
            exact hK.out _ _ rfl (Below.refl _ _)
          case o15 =>
            intro vs W hw hd K hK
            have h10 : vs 10 = .bool true := hd 10 (by kernel_rfl)
            simp only [Nat.reduceAdd, h10] at hK ⊢
            go_simp
            exact hK.out _ _ rfl (Below.refl _ _)
          case o16 =>
            intro vs W hw hd K hK
            have h10 : vs 10 = .bool true := hd 10 (by kernel_rfl)
            have h15 : vs 15 = undef := hd 15 (by kernel_rfl)
            simp only [Nat.reduceAdd, h10, h15] at hK ⊢
            go_simp
            exact hK.out _ _ rfl (Below.refl _ _)
        case hfin =>
          intro vs W hw hd
          have h16 : vs 16 = .bool true := hd 16 (by decide)
          simp only [Nat.reduceAdd, h16]
          go_wp2_with fail
          go_meet
          exact ⟨rfl, hw⟩
      case rest =>
        obtain ⟨rfl, HW⟩ := hcut
        have hFw := HFx.out _ HW.out
        have hRw := HRx.out _ HW.out
        obtain ⟨⟨p0, p1, p2, p3⟩, q0, q1, q2, q3⟩ := fcells4 hFw
        obtain ⟨⟨r0, r1, r2, r3⟩, s0, s1, s2, s3⟩ := fcells4 hRw
        have hF1 := HF1.out
        obtain ⟨hfin, hg⟩ := HQ.out _ hF1 hRw (HBx.out _ HW.out)
        unfold setF4 at hfin hg
        have HFin := Lib.hid hfin
        have HG := Lib.hid hg
        clear hfin hg HQ HP HFx HRx HBx HAx hFw hRw HW cK cH cPu
        go_wp2
        (try simp only [Exit.inBlock, Exit.then])
        refine bodyPost_ret (results_cell_row rfl _ _ (W00.heap.size + 1) _ _ _ _ rfl HFin.out Tryz.underlying24 rfl (by kernel_rfl)) rfl ?_
        exact HG.out
end

end Go.Proofs.YthjdopnoophigaaGreatDoor
