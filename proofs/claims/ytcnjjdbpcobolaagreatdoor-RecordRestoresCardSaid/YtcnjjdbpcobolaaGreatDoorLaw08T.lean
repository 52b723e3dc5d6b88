/- The statement RecordRestores of layer 8 over this translation: it returns true. -/
import Derived.Test.YtcnjjdbpcobolaaGreatDoorQ32
import Derived.Test.YtcnjjdbpcobolaaGreatDoorQ28
import Derived.Test.YtcnjjdbpcobolaaGreatDoorQ30
import Derived.Test.YtcnjjdbpcobolaaGreatDoorLawRs08
import Derived.Test.YtcnjjdbpcobolaaGreatDoorQ15
import Derived.Test.YtcnjjdbpcobolaaGreatDoorQ03
import Derived.Test.YtcnjjdbpcobolaaGreatDoorQ05
import Derived.Deep.DeepCutAuto
namespace Go.Proofs.YtcnjjdbpcobolaaGreatDoor
open Go.RowKit Go.PlainAid

/-- A field in its box. -/
structure FX (b : Nat) (f : Fld) (x : Value) (W : World) : Prop where
  bx : W.heap[b]? = some (.cells #[.string (S f.tag), .string (S f.ind), x, .int .i64 f.auth] 35 (0, 0))
  q : QL x f.subs W
theorem FX.lt {b : Nat} {f : Fld} {x : Value} {W : World} (h : FX b f x W) : b < W.heap.size := (Array.getElem?_eq_some_iff.1 h.bx).1
theorem FX.after {b : Nat} {f : Fld} {x : Value} {W W' : World} (h : FX b f x W) (hb : Below W.heap.size W W') : FX b f x W' := ⟨(hb.block _ h.lt).trans h.bx, h.q.after hb⟩
theorem FX.new {f : Fld} {x : Value} {w : World} (h : QL x f.subs w) : FX w.heap.size f x (w.alloc (.cells #[.string (S f.tag), .string (S f.ind), x, .int .i64 f.auth] 35)) :=
  ⟨heap_alloc_new w _, h.after ((Below.refl w.heap.size w).alloc (Nat.le_refl _) _)⟩
theorem FX.cells {b : Nat} {f : Fld} {x : Value} {W : World} (h : FX b f x W) : W.cell? ⟨b, 0, none⟩ = some (.string (S f.tag)) ∧ W.cell? ⟨b, 1, none⟩ = some (.string (S f.ind)) ∧ W.cell? ⟨b, 2, none⟩ = some x ∧ W.cell? ⟨b, 3, none⟩ = some (.int .i64 f.auth) := (fld_cells h.bx).1

set_option maxHeartbeats 8000000 in
set_option maxRecDepth 100000 in
theorem lawRestores_any (r : Rec) (u : Value) (i : Int) (f : Fld) (x : Value) (w : World) (hE : EnvR w) (hu : FL u r.fields w) (hx : QL x f.subs w) :
    Calls Tryz.prog 8 #[RV r u, .int .i64 i, FV f x] w fun e w' => e = .returned (.bool true) ∧ Below w.heap.size w w' := by
  have c0 := Lib.hid (fun W hE => alive_any W hE)
  have br := (Below.refl w.heap.size w).alloc (Nat.le_refl _) (.cells #[.int .i64 r.id, .int .i64 r.ver, .int .i64 r.kind, .string (S r.lang), u] 24)
  have hX := RB.new hu
  have hF := FX.new (hx.after br)
  have hE1 := hE.after br
  obtain ⟨W1, hW1⟩ : ∃ W1, w.alloc (.cells #[.int .i64 r.id, .int .i64 r.ver, .int .i64 r.kind, .string (S r.lang), u] 24) = W1 := ⟨_, rfl⟩
  rw [hW1] at br hX hF hE1
  have hs1 : W1.heap.size = w.heap.size + 1 := by rw [← hW1]; simp
  have bf := (Below.refl W1.heap.size W1).alloc (Nat.le_refl _) (.cells #[.string (S f.tag), .string (S f.ind), x, .int .i64 f.auth] 35)
  replace hX := hX.after bf
  have hE0 := hE1.after bf
  have b0 := br.trans (bf.mono br.size)
  rw [hs1] at hF
  obtain ⟨W0, hW0⟩ : ∃ W0, W1.alloc (.cells #[.string (S f.tag), .string (S f.ind), x, .int .i64 f.auth] 35) = W0 := ⟨_, rfl⟩
  rw [hW0] at b0 hX hF hE0
  rw [← hW1] at hW0
  have HW0 := Lib.hid hW0
  obtain ⟨vb, hvb⟩ : ∃ vb, (smallRB r && decide (rightRI r = 0)) = vb := ⟨_, rfl⟩
  obtain ⟨fb, hfb⟩ : ∃ fb, smallFB f = fb := ⟨_, rfl⟩
  have cV := Lib.hid (fun W h => lvalid_any r u W h vb hvb)
  have cF := Lib.hid (fun W h => refSmallField_any f x W h fb hfb)
  obtain ⟨a, cap, rfl, _, _⟩ := hu.length
  obtain ⟨ax, cx, rfl, _⟩ := id hx
  clear hW0 hE hu hx br bf hE1 hW1 hs1 W1
  unfold RV FV at *
  obtain ⟨n, hn⟩ : ∃ n, r.fields.length = n := ⟨_, rfl⟩
  obtain ⟨m, hm⟩ : ∃ m, f.subs.length = m := ⟨_, rfl⟩
  rw [hn] at HW0 cV hX
  rw [hm] at HW0 cF hF
  rw [hn, hm]
  obtain ⟨k0, k1, k2, k3, k4⟩ := hX.cells
  obtain ⟨m0, m1, m2, m3⟩ := hF.cells
  cases vb
  · clear hn hm hvb hfb
    go_enter Tryz.func8, Tryz.ntmps8
    go_upto_region 1 with fail
    rw [HW0.out]
    go_wp2_with fail
    refine (cV.out _ hX.q).mono ?_
    rintro e w1 ⟨rfl, c⟩
    have b1 := b0.trans (c.mono b0.size)
    have hE1 := hE0.after c
    clear c b0 k0 k1 k2 k3 k4 m0 m1 m2 m3
    go_wp2_with fail
    refine (c0.out _ hE1).mono ?_
    rintro e w2 ⟨rfl, c⟩
    have b2 := b1.trans (c.mono b1.size)
    clear c b1
    go_wp2
    go_ret
    exact ⟨rfl, b2⟩
  cases fb
  · clear hn hm hvb hfb
    go_enter Tryz.func8, Tryz.ntmps8
    go_upto_region 1 with fail
    rw [HW0.out]
    go_wp2_with fail
    refine (cV.out _ hX.q).mono ?_
    rintro e w1 ⟨rfl, c⟩
    have b1 := b0.trans (c.mono b0.size)
    have hE1 := hE0.after c
    have hF1 := hF.after c
    clear c b0 k0 k1 k2 k3 k4 m0 m1 m2 m3
    obtain ⟨m0, m1, m2, m3⟩ := hF1.cells
    go_wp2_with fail
    refine (cF.out _ hF1.q).mono ?_
    rintro e w2 ⟨rfl, c⟩
    have b2 := b1.trans (c.mono b1.size)
    have hE2 := hE1.after c
    clear c b1 m0 m1 m2 m3
    go_wp2_with fail
    refine (c0.out _ hE2).mono ?_
    rintro e w3 ⟨rfl, c⟩
    have b3 := b2.trans (c.mono b2.size)
    clear c b2
    go_wp2
    go_ret
    exact ⟨rfl, b3⟩
  have hsm : smallRB r = true := by
    cases h : smallRB r
    · rw [h] at hvb; cases hvb
    · rfl
  obtain ⟨hs1, hs2⟩ := smallR_le r hsm
  have hz : ∀ j, j < f.subs.length → (f.subs.getD j sub0).2.length ≤ 1000000 := fun j _ => Nat.le_trans ((smallF_le f hfb).2 j) (by decide)
  have hrt : rightRI r = 0 := by
    rw [hsm, Bool.true_and, decide_eq_true_iff] at hvb
    exact hvb
  have hlz := right_lang r hrt
  obtain ⟨⟨qi, ei⟩, hqi⟩ : ∃ p, insR r i f = p := ⟨_, rfl⟩
  have c1 := Lib.hid (fun W hE (h : FL (.slice a r.fields.length cap) r.fields W) (h2 : QL (.slice ax f.subs.length cx) f.subs W) => pInsert_any r _ W hE h i f _ h2 hz (by omega) qi ei hqi)
  have HIn : RowKit.Hid (∀ k : Nat, k < n → ∃ qr : Rec, (∀ W (h : FL (.slice a n cap) r.fields W), Calls Tryz.prog 23 #[RV r (.slice a n cap), .int .i64 (k : Int)] W fun e w' => ∃ v, e = .returned (.tuple #[RV qr v, .int .i64 0]) ∧ FL v qr.fields w' ∧ Below W.heap.size W w') ∧ ∃ nr : Nat, qr.fields.length = nr ∧
      (∀ v W (hE : Env W) (h : FL v qr.fields W), Calls Tryz.prog 12 #[RV qr v] W fun e w' => e = .returned (.int .i64 0) ∧ Below W.heap.size W w') ∧
      ∀ y v W (hE : Env W) (h : FL v qr.fields W) (h2 : QL y (r.fields.getD k fd0).subs W), Calls Tryz.prog 21 #[RV qr v, .int .i64 (k : Int), FV (r.fields.getD k fd0) y] W fun e w' => ∃ v, e = .returned (.tuple #[RV r v, .int .i64 0]) ∧ FL v r.fields w' ∧ Below W.heap.size W w') := by
    intro k hkn
    rw [← hn] at hkn
    obtain ⟨q, e1, e2, e3, e4, e5, e6⟩ := rem_ok r k hkn hrt
    refine ⟨q, fun W h => ?_, q.fields.length, rfl, fun v W hE h => pRight_any q v W hE h (by rw [e5]; exact hlz) (fun i hi j _ => Nat.le_trans ((hs2 _ (e4 _ (by rw [List.getD_eq_getElem?_getD, List.getElem?_eq_getElem hi]; exact List.getElem_mem hi))).2 j) (by decide)) 0 e2, fun y v W hE h h2 => ?_⟩
    · rw [← hn] at h ⊢
      exact pRemove_any r _ W h k (by omega) q 0 e1
    · exact pInsert_any q v W hE h k _ y h2 (fun j _ => Nat.le_trans ((hs2 _ (by rw [List.getD_eq_getElem?_getD, List.getElem?_eq_getElem hkn]; exact List.getElem_mem hkn)).2 j) (by decide)) (by omega) r 0 e6
  have HN := Lib.hid hn
  have cE := Lib.hid (fun u v W hu hv => pSame_any r r u v W hu hv true ((sameRB_iff r r).2 rfl))
  have cS := Lib.hid (fun u v W hu hv => refSame_any f f u v W hu hv true ((sameB_iff f f).2 rfl))
  unfold RV FV at c1
  unfold RV at cE HIn
  unfold FV at cS HIn
  rw [hn] at c1
  rw [hm] at c1
  by_cases h0 : ei = 0
  · subst h0
    obtain ⟨k, rfl, hkq, hqq, hrq, hrem⟩ := ins_ok r i f qi hqi hrt
    have HQl : RowKit.Hid (qi.fields.length = n + 1 ∧ qi.fields.getD k fd0 = f ∧ k ≤ n ∧ n ≤ 64) := by
      have h64 := right_len r hrt
      rw [hn] at hkq h64
      rw [hqq]
      exact ⟨by rw [← hn] at hkq ⊢; exact insL_len _ _ _ hkq, ins_at _ _ _ (by rw [hn]; exact hkq), hkq, h64⟩
    have cR := Lib.hid (fun v W hE (h : FL v qi.fields W) => pRight_any qi v W hE h (by rw [hqq]; exact hlz) (fun i hi j hj => by
      have hmem : qi.fields.getD i fd0 ∈ qi.fields := by rw [List.getD_eq_getElem?_getD, List.getElem?_eq_getElem hi]; exact List.getElem_mem hi
      have hmem2 : qi.fields.getD i fd0 ∈ insL r.fields k f := by
        have h := hmem
        rw [hqq] at h ⊢
        exact h
      rcases mem_insL _ _ _ _ hmem2 with h | h
      · rw [h] at hj ⊢
        exact hz j hj
      · exact Nat.le_trans ((hs2 _ h).2 j) (by decide)) 0 hrq)
    have cRq := Lib.hid (fun v W (h : FL v qi.fields W) => pRemove_any qi v W h k (by rw [HQl.out.1]; have := HQl.out.2.2.2; omega) r 0 hrem)
    unfold RV at cR cRq
    have HMm := Lib.hid hm
    clear hn hm hvb hfb hsm hs1 hs2 hz hqi hrt hlz hkq hqq hrq hrem
    go_enter Tryz.func8, Tryz.ntmps8
    go_upto_region 1 with fail
    rw [HW0.out]
    go_wp2_with fail
    refine (cV.out _ hX.q).mono ?_
    rintro e w1 ⟨rfl, c⟩
    have hb := b0.trans (c.mono b0.size)
    replace hE0 := hE0.after c
    replace hF := hF.after c
    replace hX := hX.after c
    clear c b0 k0 k1 k2 k3 k4 m0 m1 m2 m3
    obtain ⟨m0, m1, m2, m3⟩ := hF.cells
    go_wp2_with fail
    refine (cF.out _ hF.q).mono ?_
    rintro e w2 ⟨rfl, c⟩
    replace hb := hb.trans (c.mono hb.size)
    replace hE0 := hE0.after c
    replace hF := hF.after c
    replace hX := hX.after c
    clear c m0 m1 m2 m3
    obtain ⟨k0, k1, k2, k3, k4⟩ := hX.cells
    obtain ⟨m0, m1, m2, m3⟩ := hF.cells
    go_wp2_with fail
    refine (c1.out _ hE0.e hX.q hF.q).mono ?_
    rintro e w3 ⟨v3, rfl, hv3, c⟩
    obtain ⟨a3, p3, rfl, _, _⟩ := hv3.length
    have hR3 := RB.new hv3
    have hal := (Below.refl w3.heap.size w3).alloc (Nat.le_refl _) (.cells #[.int .i64 qi.id, .int .i64 qi.ver, .int .i64 qi.kind, .string (S qi.lang), .slice a3 qi.fields.length p3] 24)
    replace hb := (hb.trans (c.mono hb.size)).trans (hal.mono (hb.trans (c.mono hb.size)).size)
    replace hE0 := (hE0.after c).after hal
    replace hF := (hF.after c).after hal
    replace hX := (hX.after c).after hal
    obtain ⟨W3, hW3⟩ : ∃ W3, w3.alloc (.cells #[.int .i64 qi.id, .int .i64 qi.ver, .int .i64 qi.kind, .string (S qi.lang), .slice a3 qi.fields.length p3] 24) = W3 := ⟨_, rfl⟩
    rw [hW3] at hb hE0 hF hX hR3
    have HW3 := Lib.hid hW3
    clear c hal hW3 hv3 k0 k1 k2 k3 k4 m0 m1 m2 m3
    obtain ⟨b3, hb3⟩ : ∃ b3, w3.heap.size = b3 := ⟨_, rfl⟩
    rw [hb3] at hR3
    have HB3 := Lib.hid hb3
    clear hb3
    go_upto_region 4 with fail
    rw [HW3.out, HB3.out]
    clear HW3 HB3 c1 cV cF HW0
    obtain ⟨nq, hnq⟩ : ∃ nq, qi.fields.length = nq := ⟨_, rfl⟩
    have hnq1 : nq = n + 1 := by rw [← hnq]; exact HQl.out.1
    rw [hnq] at hR3 ⊢
    have HNq := Lib.hid hnq
    have HNq1 := Lib.hid hnq1
    clear hnq hnq1
    obtain ⟨k0, k1, k2, k3, k4⟩ := hR3.cells
    go_wp2_with fail
    refine (cRq.out _ _ hR3.q).mono ?_
    rintro e w4 ⟨v4, rfl, hv4, c⟩
    obtain ⟨a9, p9, rfl, _, _⟩ := hv4.length
    rw [HN.out] at hv4 ⊢
    have hR9 := RB.new (r := r) hv4
    have hal := (Below.refl w4.heap.size w4).alloc (Nat.le_refl _) (.cells #[.int .i64 r.id, .int .i64 r.ver, .int .i64 r.kind, .string (S r.lang), .slice a9 n p9] 24)
    replace hb := (hb.trans (c.mono hb.size)).trans (hal.mono (hb.trans (c.mono hb.size)).size)
    replace hE0 := (hE0.after c).after hal
    replace hF := (hF.after c).after hal
    replace hX := (hX.after c).after hal
    replace hR3 := (hR3.after c).after hal
    obtain ⟨W5, hW5⟩ : ∃ W5, w4.alloc (.cells #[.int .i64 r.id, .int .i64 r.ver, .int .i64 r.kind, .string (S r.lang), .slice a9 n p9] 24) = W5 := ⟨_, rfl⟩
    rw [hW5] at hb hE0 hF hX hR3 hR9
    have HW5 := Lib.hid hW5
    obtain ⟨b9, hb9⟩ : ∃ b9, w4.heap.size = b9 := ⟨_, rfl⟩
    rw [hb9] at hR9
    have HB9 := Lib.hid hb9
    clear c hal hW5 hv4 hb9 k0 k1 k2 k3 k4
    go_upto_region 6 with fail
    rw [HW5.out, HB9.out]
    clear HW5 HB9 cRq
    obtain ⟨g, o, cap', y, he, hg, t0, t1, t2, t3, hql⟩ := hR3.q.at k (by rw [HQl.out.1]; have := HQl.out.2.2.1; omega)
    rw [HNq.out] at he
    obtain ⟨ha, -, hcp⟩ := Value.slice.inj he
    subst ha hcp
    clear he
    rw [HQl.out.2.1] at t0 t1 t3 hql
    obtain ⟨ay, cy, rfl, _, _⟩ := hql.length
    rw [HMm.out] at t2 hql
    have HXc := Lib.hid (fun W (h : Below W5.heap.size W5 W) => (hX.after h).cells)
    have HXq := Lib.hid (fun W (h : Below W5.heap.size W5 W) => (hX.after h).q)
    have H9c := Lib.hid (fun W (h : Below W5.heap.size W5 W) => (hR9.after h).cells)
    have H9q := Lib.hid (fun W (h : Below W5.heap.size W5 W) => (hR9.after h).q)
    have H3c := Lib.hid (fun W (h : Below W5.heap.size W5 W) => (hR3.after h).cells)
    have H3q := Lib.hid (fun W (h : Below W5.heap.size W5 W) => (hR3.after h).q)
    have HFc := Lib.hid (fun W (h : Below W5.heap.size W5 W) => (hF.after h).cells)
    have HFq := Lib.hid (fun W (h : Below W5.heap.size W5 W) => (hF.after h).q)
    have HEn := Lib.hid (fun W (h : Below W5.heap.size W5 W) => hE0.after h)
    have HYq := Lib.hid (fun W (h : Below W5.heap.size W5 W) => hql.after h)
    have HYc : RowKit.Hid (∀ W, Below W5.heap.size W5 W → W.cell? ⟨g, o + k * 4, none⟩ = some (.string (S f.tag)) ∧ W.cell? ⟨g, o + k * 4 + 1, none⟩ = some (.string (S f.ind)) ∧ W.cell? ⟨g, o + k * 4 + 2, none⟩ = some (.slice ay m cy) ∧ W.cell? ⟨g, o + k * 4 + 3, none⟩ = some (.int .i64 f.auth)) := fun W h =>
      ⟨(h.cell (p := ⟨g, o + k * 4, none⟩) hg).trans t0, (h.cell (p := ⟨g, o + k * 4 + 1, none⟩) hg).trans t1, (h.cell (p := ⟨g, o + k * 4 + 2, none⟩) hg).trans t2, (h.cell (p := ⟨g, o + k * 4 + 3, none⟩) hg).trans t3⟩
    have HXr := Lib.hid (fun W (h : Below W5.heap.size W5 W) => hX.after h)
    have HB5 := Lib.hid hb
    have e1 : IntKind.i64.wrap ((n : Int) + 1) = (nq : Int) := by
      have := HNq1.out
      have := HQl.out.2.2.2
      rw [IntKind.wrap_i64]
      omega
    have i1 : (0 : Int) ≤ (k : Int) := by omega
    have i2 : (k : Int) < (nq : Int) := by
      have := HNq1.out
      have := HQl.out.2.2.1
      omega
    clear hX hR9 hR3 hF hE0 hql t0 t1 t2 t3 hg hb
    apply wp_region_inv (V := [.eq (.int .i64 0), .eq (.bool false), .eq (.bool false), .eq (.agg #[.int .i64 r.id, .int .i64 r.ver, .int .i64 r.kind, .string (S r.lang), .slice a n cap]), .eq (.agg #[.int .i64 r.id, .int .i64 r.ver, .int .i64 r.kind, .string (S r.lang), .slice a9 n p9]), .eq (.bool true), .eq (.bool false), .eq (.bool false), .eq (.bool false), .eq (.agg #[.int .i64 qi.id, .int .i64 qi.ver, .int .i64 qi.kind, .string (S qi.lang), .slice (some ⟨g, o, none⟩) nq p3]), .eq (.int .i64 0), .eq (.bool false), .eq (.bool false), .eq (.bool false), .eq (.pointer (some ⟨b3, 4, none⟩)), .eq (.slice (some ⟨g, o, none⟩) nq p3), .eq (.int .i64 (nq : Int)), .eq (.pointer (some ⟨w.heap.size, 4, none⟩)), .eq (.slice a n cap), .eq (.int .i64 (n : Int)), .eq (.int .i64 (nq : Int)), .eq (.bool false), .eq (.bool false), .eq (.bool false), .eq (.pointer (some ⟨b3, 4, none⟩)), .eq (.slice (some ⟨g, o, none⟩) nq p3), .eq (.int .i64 (k : Int)), .eq (.pointer (some ⟨g, o + k * 4, none⟩)), .eq (.agg #[.string (S f.tag), .string (S f.ind), .slice ay m cy, .int .i64 f.auth]), .eq (.agg #[.string (S f.tag), .string (S f.ind), .slice ax m cx, .int .i64 f.auth]), .eq (.bool true), .eq (.bool false), .eq (.bool false)])
    case hm => kernel_rfl
    case hd => kernel_rfl
    case hb => kernel_rfl
    case hA =>
      intro vs
      simp only [puts, Act.put, List.setIfInBounds_toArray, List.set_cons_zero, List.set_cons_succ]
      exact rfl
    case hob =>
      refine Obs.cons _ _ _ _ _ _ ?o0 (Obs.cons _ _ _ _ _ _ ?o1 (Obs.cons _ _ _ _ _ _ ?o2 (Obs.cons _ _ _ _ _ _ ?o3 (Obs.cons _ _ _ _ _ _ ?o4 (Obs.cons _ _ _ _ _ _ ?o5 (Obs.cons _ _ _ _ _ _ ?o6 (Obs.cons _ _ _ _ _ _ ?o7 (Obs.cons _ _ _ _ _ _ ?o8 (Obs.cons _ _ _ _ _ _ ?o9 (Obs.cons _ _ _ _ _ _ ?o10 (Obs.cons _ _ _ _ _ _ ?o11 (Obs.cons _ _ _ _ _ _ ?o12 (Obs.cons _ _ _ _ _ _ ?o13 (Obs.cons _ _ _ _ _ _ ?o14 (Obs.cons _ _ _ _ _ _ ?o15 (Obs.cons _ _ _ _ _ _ ?o16 (Obs.cons _ _ _ _ _ _ ?o17 (Obs.cons _ _ _ _ _ _ ?o18 (Obs.cons _ _ _ _ _ _ ?o19 (Obs.cons _ _ _ _ _ _ ?o20 (Obs.cons _ _ _ _ _ _ ?o21 (Obs.cons _ _ _ _ _ _ ?o22 (Obs.cons _ _ _ _ _ _ ?o23 (Obs.cons _ _ _ _ _ _ ?o24 (Obs.cons _ _ _ _ _ _ ?o25 (Obs.cons _ _ _ _ _ _ ?o26 (Obs.cons _ _ _ _ _ _ ?o27 (Obs.cons _ _ _ _ _ _ ?o28 (Obs.cons _ _ _ _ _ _ ?o29 (Obs.cons _ _ _ _ _ _ ?o30 (Obs.cons _ _ _ _ _ _ ?o31 (Obs.cons _ _ _ _ _ _ ?o32 (Obs.nil _ _ _ _ _ _)))))))))))))))))))))))))))))))))
      case o0 =>
        intro vs W hw hd K hK
        go_simp
        exact hK.out _ _ rfl (Below.refl _ _)
      case o1 =>
        intro vs W hw hd K hK
        have h0 : vs 0 = .int .i64 0 := hd 0 (by kernel_rfl)
        simp only [Nat.reduceAdd, h0] at hK ⊢
        go_simp
        exact hK.out _ _ rfl (Below.refl _ _)
      case o2 =>
        intro vs W hw hd K hK
        have h1 : vs 1 = .bool false := hd 1 (by kernel_rfl)
        simp only [Nat.reduceAdd, h1] at hK ⊢
        go_simp
        exact hK.out _ _ rfl (Below.refl _ _)
      case o3 =>
        intro vs W hw hd K hK
        have h2 : vs 2 = .bool false := hd 2 (by kernel_rfl)
        obtain ⟨k0, k1, k2, k3, k4⟩ := HXc.out W hw
        simp only [Nat.reduceAdd, h2] at hK ⊢
        go_simp
        exact hK.out _ _ rfl (Below.refl _ _)
      case o4 =>
        intro vs W hw hd K hK
        have h2 : vs 2 = .bool false := hd 2 (by kernel_rfl)
        obtain ⟨k0, k1, k2, k3, k4⟩ := H9c.out W hw
        simp only [Nat.reduceAdd, h2] at hK ⊢
        go_simp
        exact hK.out _ _ rfl (Below.refl _ _)
      case o5 =>
        intro vs W hw hd K hK
        have h2 : vs 2 = .bool false := hd 2 (by kernel_rfl)
        have h3 : vs 3 = .agg #[.int .i64 r.id, .int .i64 r.ver, .int .i64 r.kind, .string (S r.lang), .slice a n cap] := hd 3 (by kernel_rfl)
        have h4 : vs 4 = .agg #[.int .i64 r.id, .int .i64 r.ver, .int .i64 r.kind, .string (S r.lang), .slice a9 n p9] := hd 4 (by kernel_rfl)
        simp only [Nat.reduceAdd, h2, h3, h4] at hK ⊢
        go_simp
        refine (cE.out _ _ W (HXq.out W hw) (H9q.out W hw)).mono ?_
        rintro e W' ⟨rfl, hb'⟩
        exact hK.out _ _ rfl hb'
      case o6 =>
        intro vs W hw hd K hK
        have h2 : vs 2 = .bool false := hd 2 (by kernel_rfl)
        have h5 : vs 5 = .bool true := hd 5 (by kernel_rfl)
        simp only [Nat.reduceAdd, h2, h5] at hK ⊢
        go_simp
        exact hK.out _ _ rfl (Below.refl _ _)
      case o7 =>
        intro vs W hw hd K hK
        have h2 : vs 2 = .bool false := hd 2 (by kernel_rfl)
        have h6 : vs 6 = .bool false := hd 6 (by kernel_rfl)
        simp only [Nat.reduceAdd, h2, h6] at hK ⊢
        go_simp
        exact hK.out _ _ rfl (Below.refl _ _)
      case o8 =>
        intro vs W hw hd K hK
        have h7 : vs 7 = .bool false := hd 7 (by kernel_rfl)
        simp only [Nat.reduceAdd, h7] at hK ⊢
        go_simp
        exact hK.out _ _ rfl (Below.refl _ _)
      case o9 =>
        intro vs W hw hd K hK
        have h8 : vs 8 = .bool false := hd 8 (by kernel_rfl)
        obtain ⟨k0, k1, k2, k3, k4⟩ := H3c.out W hw
        simp only [Nat.reduceAdd, h8] at hK ⊢
        go_simp
        exact hK.out _ _ rfl (Below.refl _ _)
      case o10 =>
        intro vs W hw hd K hK
        have h8 : vs 8 = .bool false := hd 8 (by kernel_rfl)
        have h9 : vs 9 = .agg #[.int .i64 qi.id, .int .i64 qi.ver, .int .i64 qi.kind, .string (S qi.lang), .slice (some ⟨g, o, none⟩) nq p3] := hd 9 (by kernel_rfl)
        simp only [Nat.reduceAdd, h8, h9] at hK ⊢
        go_simp
        refine (cR.out _ W (HEn.out W hw).e (H3q.out W hw)).mono ?_
        rintro e W' ⟨rfl, hb'⟩
        exact hK.out _ _ rfl hb'
      case o11 =>
        intro vs W hw hd K hK
        have h8 : vs 8 = .bool false := hd 8 (by kernel_rfl)
        have h10 : vs 10 = .int .i64 0 := hd 10 (by kernel_rfl)
        simp only [Nat.reduceAdd, h8, h10] at hK ⊢
        go_simp
        exact hK.out _ _ rfl (Below.refl _ _)
      case o12 =>
        intro vs W hw hd K hK
        have h8 : vs 8 = .bool false := hd 8 (by kernel_rfl)
        have h11 : vs 11 = .bool false := hd 11 (by kernel_rfl)
        simp only [Nat.reduceAdd, h8, h11] at hK ⊢
        go_simp
        exact hK.out _ _ rfl (Below.refl _ _)
      case o13 =>
        intro vs W hw hd K hK
        have h12 : vs 12 = .bool false := hd 12 (by kernel_rfl)
        simp only [Nat.reduceAdd, h12] at hK ⊢
        go_simp
        exact hK.out _ _ rfl (Below.refl _ _)
      case o14 =>
        intro vs W hw hd K hK
        have h13 : vs 13 = .bool false := hd 13 (by kernel_rfl)
        simp only [Nat.reduceAdd, h13] at hK ⊢
        go_simp
        exact hK.out _ _ rfl (Below.refl _ _)
      case o15 =>
        intro vs W hw hd K hK
        have h13 : vs 13 = .bool false := hd 13 (by kernel_rfl)
        have h14 : vs 14 = .pointer (some ⟨b3, 4, none⟩) := hd 14 (by kernel_rfl)
        obtain ⟨k0, k1, k2, k3, k4⟩ := H3c.out W hw
        simp only [Nat.reduceAdd, h13, h14] at hK ⊢
        go_simp
        exact hK.out _ _ rfl (Below.refl _ _)
      case o16 =>
        intro vs W hw hd K hK
        have h13 : vs 13 = .bool false := hd 13 (by kernel_rfl)
        have h15 : vs 15 = .slice (some ⟨g, o, none⟩) nq p3 := hd 15 (by kernel_rfl)
        simp only [Nat.reduceAdd, h13, h15] at hK ⊢
        go_simp
        exact hK.out _ _ rfl (Below.refl _ _)
      case o17 =>
        intro vs W hw hd K hK
        have h13 : vs 13 = .bool false := hd 13 (by kernel_rfl)
        simp only [Nat.reduceAdd, h13] at hK ⊢
        go_simp
        exact hK.out _ _ rfl (Below.refl _ _)
      case o18 =>
        intro vs W hw hd K hK
        have h13 : vs 13 = .bool false := hd 13 (by kernel_rfl)
        have h17 : vs 17 = .pointer (some ⟨w.heap.size, 4, none⟩) := hd 17 (by kernel_rfl)
        obtain ⟨k0, k1, k2, k3, k4⟩ := HXc.out W hw
        simp only [Nat.reduceAdd, h13, h17] at hK ⊢
        go_simp
        exact hK.out _ _ rfl (Below.refl _ _)
      case o19 =>
        intro vs W hw hd K hK
        have h13 : vs 13 = .bool false := hd 13 (by kernel_rfl)
        have h18 : vs 18 = .slice a n cap := hd 18 (by kernel_rfl)
        simp only [Nat.reduceAdd, h13, h18] at hK ⊢
        go_simp
        exact hK.out _ _ rfl (Below.refl _ _)
      case o20 =>
        intro vs W hw hd K hK
        have h13 : vs 13 = .bool false := hd 13 (by kernel_rfl)
        have h19 : vs 19 = .int .i64 (n : Int) := hd 19 (by kernel_rfl)
        simp only [Nat.reduceAdd, h13, h19] at hK ⊢
        go_simp
        exact hK.out _ _ rfl (Below.refl _ _)
      case o21 =>
        intro vs W hw hd K hK
        have h13 : vs 13 = .bool false := hd 13 (by kernel_rfl)
        have h16 : vs 16 = .int .i64 (nq : Int) := hd 16 (by kernel_rfl)
        have h20 : vs 20 = .int .i64 (nq : Int) := hd 20 (by kernel_rfl)
        simp only [Nat.reduceAdd, h13, h16, h20] at hK ⊢
        go_simp
        exact hK.out _ _ rfl (Below.refl _ _)
      case o22 =>
        intro vs W hw hd K hK
        have h13 : vs 13 = .bool false := hd 13 (by kernel_rfl)
        have h21 : vs 21 = .bool false := hd 21 (by kernel_rfl)
        simp only [Nat.reduceAdd, h13, h21] at hK ⊢
        go_simp
        exact hK.out _ _ rfl (Below.refl _ _)
      case o23 =>
        intro vs W hw hd K hK
        have h22 : vs 22 = .bool false := hd 22 (by kernel_rfl)
        simp only [Nat.reduceAdd, h22] at hK ⊢
        go_simp
        exact hK.out _ _ rfl (Below.refl _ _)
      case o24 =>
        intro vs W hw hd K hK
        have h23 : vs 23 = .bool false := hd 23 (by kernel_rfl)
        simp only [Nat.reduceAdd, h23] at hK ⊢
        go_simp
        exact hK.out _ _ rfl (Below.refl _ _)
      case o25 =>
        intro vs W hw hd K hK
        have h23 : vs 23 = .bool false := hd 23 (by kernel_rfl)
        have h24 : vs 24 = .pointer (some ⟨b3, 4, none⟩) := hd 24 (by kernel_rfl)
        obtain ⟨k0, k1, k2, k3, k4⟩ := H3c.out W hw
        simp only [Nat.reduceAdd, h23, h24] at hK ⊢
        go_simp
        exact hK.out _ _ rfl (Below.refl _ _)
      case o26 =>
        intro vs W hw hd K hK
        have h23 : vs 23 = .bool false := hd 23 (by kernel_rfl)
        simp only [Nat.reduceAdd, h23] at hK ⊢
        go_simp
        exact hK.out _ _ rfl (Below.refl _ _)
      case o27 =>
        intro vs W hw hd K hK
        have h23 : vs 23 = .bool false := hd 23 (by kernel_rfl)
        have h25 : vs 25 = .slice (some ⟨g, o, none⟩) nq p3 := hd 25 (by kernel_rfl)
        have h26 : vs 26 = .int .i64 (k : Int) := hd 26 (by kernel_rfl)
        simp only [Nat.reduceAdd, h23, h25, h26] at hK ⊢
        go_simp
        exact hK.out _ _ rfl (Below.refl _ _)
      case o28 =>
        intro vs W hw hd K hK
        have h23 : vs 23 = .bool false := hd 23 (by kernel_rfl)
        have h27 : vs 27 = .pointer (some ⟨g, o + k * 4, none⟩) := hd 27 (by kernel_rfl)
        obtain ⟨y0, y1, y2, y3⟩ := HYc.out W hw
        simp only [Nat.reduceAdd, h23, h27] at hK ⊢
        go_simp
        exact hK.out _ _ rfl (Below.refl _ _)
      case o29 =>
        intro vs W hw hd K hK
        have h23 : vs 23 = .bool false := hd 23 (by kernel_rfl)
        obtain ⟨m0, m1, m2, m3⟩ := HFc.out W hw
        simp only [Nat.reduceAdd, h23] at hK ⊢
        go_simp
        exact hK.out _ _ rfl (Below.refl _ _)
      case o30 =>
        intro vs W hw hd K hK
        have h23 : vs 23 = .bool false := hd 23 (by kernel_rfl)
        have h28 : vs 28 = .agg #[.string (S f.tag), .string (S f.ind), .slice ay m cy, .int .i64 f.auth] := hd 28 (by kernel_rfl)
        have h29 : vs 29 = .agg #[.string (S f.tag), .string (S f.ind), .slice ax m cx, .int .i64 f.auth] := hd 29 (by kernel_rfl)
        simp only [Nat.reduceAdd, h23, h28, h29] at hK ⊢
        go_simp
        refine (cS.out _ _ W (HYq.out W hw) (HFq.out W hw)).mono ?_
        rintro e W' ⟨rfl, hb'⟩
        exact hK.out _ _ rfl hb'
      case o31 =>
        intro vs W hw hd K hK
        have h23 : vs 23 = .bool false := hd 23 (by kernel_rfl)
        have h30 : vs 30 = .bool true := hd 30 (by kernel_rfl)
        simp only [Nat.reduceAdd, h23, h30] at hK ⊢
        go_simp
        exact hK.out _ _ rfl (Below.refl _ _)
      case o32 =>
        intro vs W hw hd K hK
        have h23 : vs 23 = .bool false := hd 23 (by kernel_rfl)
        have h31 : vs 31 = .bool false := hd 31 (by kernel_rfl)
        simp only [Nat.reduceAdd, h23, h31] at hK ⊢
        go_simp
        exact hK.out _ _ rfl (Below.refl _ _)
    case hfin =>
      intro vs W hw hv'
      have hk : vs 32 = .bool false := hv' 32 (by decide)
      simp only [Nat.reduceAdd, hk]
      have hX := HXr.out W hw
      have hE0 := HEn.out W hw
      have hb := HB5.out.trans (hw.mono HB5.out.size)
      have hkn' := HQl.out.2.2.1
      clear hv' HXc HXq H9c H9q H3c H3q HFc HFq HEn HYq HYc HXr cR cS hw HQl e1 i1 i2 hk
      by_cases hkn : k < n
      · clear hkn'
        obtain ⟨qr, cRm0, nr, HQr0, cRr0, cIn0⟩ := HIn.out k hkn
        have cRm := Lib.hid cRm0
        have HQr := Lib.hid HQr0
        have cIn := Lib.hid cIn0
        have cRr := Lib.hid cRr0
        clear cRm0 HQr0 cIn0 HIn cRr0
        obtain ⟨k0, k1, k2, k3, k4⟩ := hX.cells
        go_wp2_with fail
        refine (cRm.out _ hX.q).mono ?_
        rintro e w6 ⟨v6, rfl, hv6, c⟩
        obtain ⟨a6, p6, rfl, _, _⟩ := hv6.length
        rw [HQr.out] at hv6 ⊢
        have hR6 := RB.new (r := qr) hv6
        have hal := (Below.refl w6.heap.size w6).alloc (Nat.le_refl _) (.cells #[.int .i64 qr.id, .int .i64 qr.ver, .int .i64 qr.kind, .string (S qr.lang), .slice a6 nr p6] 24)
        replace hb := (hb.trans (c.mono hb.size)).trans (hal.mono (hb.trans (c.mono hb.size)).size)
        replace hE0 := (hE0.after c).after hal
        replace hX := (hX.after c).after hal
        obtain ⟨W7, hW7⟩ : ∃ W7, w6.alloc (.cells #[.int .i64 qr.id, .int .i64 qr.ver, .int .i64 qr.kind, .string (S qr.lang), .slice a6 nr p6] 24) = W7 := ⟨_, rfl⟩
        rw [hW7] at hb hE0 hX hR6
        have HW7 := Lib.hid hW7
        obtain ⟨b6, hb6⟩ : ∃ b6, w6.heap.size = b6 := ⟨_, rfl⟩
        rw [hb6] at hR6
        have HB6 := Lib.hid hb6
        clear c hal hW7 hv6 hb6 k0 k1 k2 k3 k4
        go_upto_region 10 with fail
        rw [HW7.out, HB6.out]
        clear HW7 HB6 cRm
        obtain ⟨g, o, cap', y, he, hg, t0, t1, t2, t3, hql⟩ := hX.q.at k (by rw [HN.out]; exact hkn)
        rw [HN.out] at he
        obtain ⟨ha, -, hcp⟩ := Value.slice.inj he
        subst ha hcp
        clear he
        obtain ⟨ay, cy, rfl, _, _⟩ := hql.length
        obtain ⟨fk, hfk⟩ : ∃ fk, r.fields.getD k fd0 = fk := ⟨_, rfl⟩
        rw [hfk] at t0 t1 t2 t3 hql
        have cI0 := cIn
        rw [hfk] at cI0
        obtain ⟨my, hmy⟩ : ∃ my, fk.subs.length = my := ⟨_, rfl⟩
        rw [hmy] at t2 hql
        have cI := Lib.hid (fun W (h : Below W7.heap.size W7 W) => cI0.out (.slice ay my cy) _ W (hE0.after h).e (hR6.after h).q (hql.after h))
        have HA : RowKit.Hid (Below W7.heap.size W7 (W7.alloc (.cells #[.int .i64 0, .int .i64 0, .int .i64 0, .string ⟨#[]⟩, .slice none 0 0] 24))) := (Below.refl _ _).alloc (Nat.le_refl _) _
        have HR := Lib.hid (Below.refl W7.heap.size W7)
        obtain ⟨q0, q1, q2, q3, q4⟩ := hR6.cells
        obtain ⟨k0, k1, k2, k3, k4⟩ := hX.cells
        obtain ⟨q0', q1', q2', q3', q4'⟩ := (hR6.after HA.out).cells
        obtain ⟨k0', k1', k2', k3', k4'⟩ := (hX.after HA.out).cells
        have t0' := (HA.out.cell (p := ⟨g, o + k * 4, none⟩) hg).trans t0
        have t1' := (HA.out.cell (p := ⟨g, o + k * 4 + 1, none⟩) hg).trans t1
        have t2' := (HA.out.cell (p := ⟨g, o + k * 4 + 2, none⟩) hg).trans t2
        have t3' := (HA.out.cell (p := ⟨g, o + k * 4 + 3, none⟩) hg).trans t3
        have HXw := Lib.hid (fun W (h : Below W7.heap.size W7 W) => hX.after h)
        have HRw := Lib.hid (fun W (h : Below W7.heap.size W7 W) => hR6.after h)
        have HEw := Lib.hid (fun W (h : Below W7.heap.size W7 W) => hE0.after h)
        have HBw := Lib.hid hb
        have i1 : (0 : Int) ≤ (k : Int) := by omega
        have i2 : (k : Int) < (n : Int) := by omega
        clear hX hE0 hb hR6 hql cI0 cIn hfk hmy
        go_region_law (first
          | (go_simp; go_at_call 21; refine (cI.out _ ?_).mono ?_; (first | exact ⟨HR.out.os, HR.out.tape, HR.out.output, HR.out.size, HR.out.block⟩ | exact ⟨HA.out.os, HA.out.tape, HA.out.output, HA.out.size, HA.out.block⟩); rintro e W8 ⟨v8, rfl, q8, hb8⟩; obtain ⟨a8, p8, rfl, _, _⟩ := q8.length; rw [HN.out] at q8 ⊢; (first | have hN := (hb8.block _ (by simp)).trans (heap_alloc_new _ (.cells #[.int .i64 0, .int .i64 0, .int .i64 0, .string ⟨#[]⟩, .slice none 0 0] 24)) | skip); (first | (have hN2 := rec_cells hN; obtain ⟨⟨z0, z1, z2, z3, z4⟩, f0, f1, f2, f3, f4⟩ := hN2) | skip); have hD : Below W7.heap.size W7 W8 := (by first | exact ⟨hb8.os, hb8.tape, hb8.output, hb8.size, hb8.block⟩ | exact below_via (.cells #[.int .i64 0, .int .i64 0, .int .i64 0, .string ⟨#[]⟩, .slice none 0 0] 24) ⟨hb8.os, hb8.tape, hb8.output, hb8.size, hb8.block⟩)))
        all_goals
          first
            | (have hn9 := hN
               have hR13 : RB W7.heap.size r (.slice a8 n p8) (((((W8.setCell ⟨W7.heap.size, 0, none⟩ (.int .i64 r.id)).setCell ⟨W7.heap.size, 1, none⟩ (.int .i64 r.ver)).setCell ⟨W7.heap.size, 2, none⟩ (.int .i64 r.kind)).setCell ⟨W7.heap.size, 3, none⟩ (.string (S r.lang))).setCell ⟨W7.heap.size, 4, none⟩ (.slice a8 n p8)) := ⟨rec_set hn9, q8.set5 hn9 _ _ _ _ _⟩
               have hB9 : Below W7.heap.size W7 (((((W8.setCell ⟨W7.heap.size, 0, none⟩ (.int .i64 r.id)).setCell ⟨W7.heap.size, 1, none⟩ (.int .i64 r.ver)).setCell ⟨W7.heap.size, 2, none⟩ (.int .i64 r.kind)).setCell ⟨W7.heap.size, 3, none⟩ (.string (S r.lang))).setCell ⟨W7.heap.size, 4, none⟩ (.slice a8 n p8)) := rec_below hD (Nat.le_refl _) _ _ _ _ _
               revert hR13 hB9
               generalize (((((W8.setCell ⟨W7.heap.size, 0, none⟩ (.int .i64 r.id)).setCell ⟨W7.heap.size, 1, none⟩ (.int .i64 r.ver)).setCell ⟨W7.heap.size, 2, none⟩ (.int .i64 r.kind)).setCell ⟨W7.heap.size, 3, none⟩ (.string (S r.lang))).setCell ⟨W7.heap.size, 4, none⟩ (.slice a8 n p8)) = W9
               intro hR13 hB9
               generalize W7.heap.size = b13 at hR13 ⊢)
            | (have hR13 : RB W8.heap.size r (.slice a8 n p8) (W8.alloc (.cells #[.int .i64 r.id, .int .i64 r.ver, .int .i64 r.kind, .string (S r.lang), .slice a8 n p8] 24)) := RB.new (r := r) q8
               have hB9 : Below W7.heap.size W7 (W8.alloc (.cells #[.int .i64 r.id, .int .i64 r.ver, .int .i64 r.kind, .string (S r.lang), .slice a8 n p8] 24)) := hD.alloc hD.size _
               revert hR13 hB9
               generalize W8.alloc (.cells #[.int .i64 r.id, .int .i64 r.ver, .int .i64 r.kind, .string (S r.lang), .slice a8 n p8] 24) = W9
               intro hR13 hB9
               generalize W8.heap.size = b13 at hR13 ⊢)
          (first | clear hN2 | skip)
          (first | clear z0 z1 z2 z3 z4 f0 f1 f2 f3 f4 | skip)
          (first | clear hN | skip)
          have hX9 := HXw.out W9 hB9
          have hR9' := HRw.out W9 hB9
          have hE9 := HEw.out W9 hB9
          have hb9 := HBw.out.trans (hB9.mono HBw.out.size)
          clear hB9 q8 hb8 hD q0 q1 q2 q3 q4 k0 k1 k2 k3 k4 q0' q1' q2' q3' q4' k0' k1' k2' k3' k4' t0 t1 t2 t3 t0' t1' t2' t3' HXw HRw HEw HBw HA HR cI i1 i2
          obtain ⟨k0, k1, k2, k3, k4⟩ := hX9.cells
          obtain ⟨l0, l1, l2, l3, l4⟩ := hR13.cells
          go_wp2_with fail
          refine (cE.out _ _ _ hX9.q hR13.q).mono ?_
          rintro e w10 ⟨rfl, c⟩
          have hR10 := hR9'.after c
          have hE10 := hE9.after c
          have hb10 := hb9.trans (c.mono hb9.size)
          clear c hR9' hE9 hb9 hX9 hR13 k0 k1 k2 k3 k4 l0 l1 l2 l3 l4
          obtain ⟨k0, k1, k2, k3, k4⟩ := hR10.cells
          go_wp2_with fail
          refine (cRr.out _ _ hE10.e hR10.q).mono ?_
          rintro e w11 ⟨rfl, c⟩
          have hE11 := hE10.after c
          have hb11 := hb10.trans (c.mono hb10.size)
          clear c hE10 hb10 hR10 k0 k1 k2 k3 k4
          go_wp2_with fail
          refine (c0.out _ hE11).mono ?_
          rintro e w12 ⟨rfl, c⟩
          have hb12 := hb11.trans (c.mono hb11.size)
          clear c
          go_wp2
          go_ret
          exact ⟨rfl, hb12⟩
      · obtain rfl : k = n := by omega
        clear hkn hkn' HIn
        obtain ⟨l0, l1, l2, l3, l4⟩ := hX.cells
        go_wp2_with fail
        refine (c0.out _ hE0).mono ?_
        rintro e w9 ⟨rfl, c⟩
        have hb9 := hb.trans (c.mono hb.size)
        clear c
        go_wp2
        go_ret
        exact ⟨rfl, hb9⟩
  · have t9 : (ei == 0) = false := by simpa using h0
    have t8 : decide (ei = 0) = false := decide_eq_false h0
    clear hn hm hvb hfb hsm hs1 hs2 hz hqi h0 hrt hlz cS
    go_enter Tryz.func8, Tryz.ntmps8
    go_upto_region 1 with fail
    rw [HW0.out]
    go_wp2_with fail
    refine (cV.out _ hX.q).mono ?_
    rintro e w1 ⟨rfl, c⟩
    have hb := b0.trans (c.mono b0.size)
    replace hE0 := hE0.after c
    replace hF := hF.after c
    replace hX := hX.after c
    clear c b0 k0 k1 k2 k3 k4 m0 m1 m2 m3
    obtain ⟨m0, m1, m2, m3⟩ := hF.cells
    go_wp2_with fail
    refine (cF.out _ hF.q).mono ?_
    rintro e w2 ⟨rfl, c⟩
    replace hb := hb.trans (c.mono hb.size)
    replace hE0 := hE0.after c
    replace hF := hF.after c
    replace hX := hX.after c
    clear c m0 m1 m2 m3
    obtain ⟨k0, k1, k2, k3, k4⟩ := hX.cells
    obtain ⟨m0, m1, m2, m3⟩ := hF.cells
    go_wp2_with fail
    refine (c1.out _ hE0.e hX.q hF.q).mono ?_
    rintro e w3 ⟨v3, rfl, hv3, c⟩
    obtain ⟨a3, p3, rfl, _, _⟩ := hv3.length
    have hR3 := RB.new hv3
    have hal := (Below.refl w3.heap.size w3).alloc (Nat.le_refl _) (.cells #[.int .i64 qi.id, .int .i64 qi.ver, .int .i64 qi.kind, .string (S qi.lang), .slice a3 qi.fields.length p3] 24)
    replace hb := (hb.trans (c.mono hb.size)).trans (hal.mono (hb.trans (c.mono hb.size)).size)
    replace hE0 := (hE0.after c).after hal
    replace hF := (hF.after c).after hal
    replace hX := (hX.after c).after hal
    obtain ⟨W3, hW3⟩ : ∃ W3, w3.alloc (.cells #[.int .i64 qi.id, .int .i64 qi.ver, .int .i64 qi.kind, .string (S qi.lang), .slice a3 qi.fields.length p3] 24) = W3 := ⟨_, rfl⟩
    rw [hW3] at hb hE0 hF hX hR3
    have HW3 := Lib.hid hW3
    clear c hal hW3 hv3 k0 k1 k2 k3 k4 m0 m1 m2 m3
    obtain ⟨b3, hb3⟩ : ∃ b3, w3.heap.size = b3 := ⟨_, rfl⟩
    rw [hb3] at hR3
    have HB3 := Lib.hid hb3
    clear hb3
    go_upto_region 4 with fail
    rw [HW3.out, HB3.out]
    clear HW3 HB3 c1 cV cF HW0
    clear hR3 hF
    rcases Int.lt_or_le i 0 with hi | hi
    · have d1 : decide (0 ≤ i) = false := decide_eq_false (by omega)
      clear hi HIn
      go_wp2_with fail
      refine (c0.out _ hE0).mono ?_
      rintro e w9 ⟨rfl, c⟩
      have hb9 := hb.trans (c.mono hb.size)
      clear c
      go_wp2
      go_ret
      exact ⟨rfl, hb9⟩
    obtain ⟨k, rfl⟩ : ∃ k : Nat, i = (k : Int) := ⟨i.toNat, by omega⟩
    clear hi
    by_cases hkn : k < n
    · obtain ⟨qr, cRm0, nr, HQr0, cRr0, cIn0⟩ := HIn.out k hkn
      have cRm := Lib.hid cRm0
      have HQr := Lib.hid HQr0
      have cIn := Lib.hid cIn0
      have cRr := Lib.hid cRr0
      clear cRm0 HQr0 cIn0 HIn cRr0
      obtain ⟨k0, k1, k2, k3, k4⟩ := hX.cells
      go_wp2_with fail
      refine (cRm.out _ hX.q).mono ?_
      rintro e w6 ⟨v6, rfl, hv6, c⟩
      obtain ⟨a6, p6, rfl, _, _⟩ := hv6.length
      rw [HQr.out] at hv6 ⊢
      have hR6 := RB.new (r := qr) hv6
      have hal := (Below.refl w6.heap.size w6).alloc (Nat.le_refl _) (.cells #[.int .i64 qr.id, .int .i64 qr.ver, .int .i64 qr.kind, .string (S qr.lang), .slice a6 nr p6] 24)
      replace hb := (hb.trans (c.mono hb.size)).trans (hal.mono (hb.trans (c.mono hb.size)).size)
      replace hE0 := (hE0.after c).after hal
      replace hX := (hX.after c).after hal
      obtain ⟨W7, hW7⟩ : ∃ W7, w6.alloc (.cells #[.int .i64 qr.id, .int .i64 qr.ver, .int .i64 qr.kind, .string (S qr.lang), .slice a6 nr p6] 24) = W7 := ⟨_, rfl⟩
      rw [hW7] at hb hE0 hX hR6
      have HW7 := Lib.hid hW7
      obtain ⟨b6, hb6⟩ : ∃ b6, w6.heap.size = b6 := ⟨_, rfl⟩
      rw [hb6] at hR6
      have HB6 := Lib.hid hb6
      clear c hal hW7 hv6 hb6 k0 k1 k2 k3 k4
      go_upto_region 10 with fail
      rw [HW7.out, HB6.out]
      clear HW7 HB6 cRm
      obtain ⟨g, o, cap', y, he, hg, t0, t1, t2, t3, hql⟩ := hX.q.at k (by rw [HN.out]; exact hkn)
      rw [HN.out] at he
      obtain ⟨ha, -, hcp⟩ := Value.slice.inj he
      subst ha hcp
      clear he
      obtain ⟨ay, cy, rfl, _, _⟩ := hql.length
      obtain ⟨fk, hfk⟩ : ∃ fk, r.fields.getD k fd0 = fk := ⟨_, rfl⟩
      rw [hfk] at t0 t1 t2 t3 hql
      have cI0 := cIn
      rw [hfk] at cI0
      obtain ⟨my, hmy⟩ : ∃ my, fk.subs.length = my := ⟨_, rfl⟩
      rw [hmy] at t2 hql
      have cI := Lib.hid (fun W (h : Below W7.heap.size W7 W) => cI0.out (.slice ay my cy) _ W (hE0.after h).e (hR6.after h).q (hql.after h))
      have HA : RowKit.Hid (Below W7.heap.size W7 (W7.alloc (.cells #[.int .i64 0, .int .i64 0, .int .i64 0, .string ⟨#[]⟩, .slice none 0 0] 24))) := (Below.refl _ _).alloc (Nat.le_refl _) _
      have HR := Lib.hid (Below.refl W7.heap.size W7)
      obtain ⟨q0, q1, q2, q3, q4⟩ := hR6.cells
      obtain ⟨k0, k1, k2, k3, k4⟩ := hX.cells
      obtain ⟨q0', q1', q2', q3', q4'⟩ := (hR6.after HA.out).cells
      obtain ⟨k0', k1', k2', k3', k4'⟩ := (hX.after HA.out).cells
      have t0' := (HA.out.cell (p := ⟨g, o + k * 4, none⟩) hg).trans t0
      have t1' := (HA.out.cell (p := ⟨g, o + k * 4 + 1, none⟩) hg).trans t1
      have t2' := (HA.out.cell (p := ⟨g, o + k * 4 + 2, none⟩) hg).trans t2
      have t3' := (HA.out.cell (p := ⟨g, o + k * 4 + 3, none⟩) hg).trans t3
      have HXw := Lib.hid (fun W (h : Below W7.heap.size W7 W) => hX.after h)
      have HRw := Lib.hid (fun W (h : Below W7.heap.size W7 W) => hR6.after h)
      have HEw := Lib.hid (fun W (h : Below W7.heap.size W7 W) => hE0.after h)
      have HBw := Lib.hid hb
      have i1 : (0 : Int) ≤ (k : Int) := by omega
      have i2 : (k : Int) < (n : Int) := by omega
      clear hX hE0 hb hR6 hql cI0 cIn hfk hmy
      go_region_law (first
        | (go_simp; go_at_call 21; refine (cI.out _ ?_).mono ?_; (first | exact ⟨HR.out.os, HR.out.tape, HR.out.output, HR.out.size, HR.out.block⟩ | exact ⟨HA.out.os, HA.out.tape, HA.out.output, HA.out.size, HA.out.block⟩); rintro e W8 ⟨v8, rfl, q8, hb8⟩; obtain ⟨a8, p8, rfl, _, _⟩ := q8.length; rw [HN.out] at q8 ⊢; (first | have hN := (hb8.block _ (by simp)).trans (heap_alloc_new _ (.cells #[.int .i64 0, .int .i64 0, .int .i64 0, .string ⟨#[]⟩, .slice none 0 0] 24)) | skip); (first | (have hN2 := rec_cells hN; obtain ⟨⟨z0, z1, z2, z3, z4⟩, f0, f1, f2, f3, f4⟩ := hN2) | skip); have hD : Below W7.heap.size W7 W8 := (by first | exact ⟨hb8.os, hb8.tape, hb8.output, hb8.size, hb8.block⟩ | exact below_via (.cells #[.int .i64 0, .int .i64 0, .int .i64 0, .string ⟨#[]⟩, .slice none 0 0] 24) ⟨hb8.os, hb8.tape, hb8.output, hb8.size, hb8.block⟩)))
      all_goals
        first
          | (have hn9 := hN
             have hR13 : RB W7.heap.size r (.slice a8 n p8) (((((W8.setCell ⟨W7.heap.size, 0, none⟩ (.int .i64 r.id)).setCell ⟨W7.heap.size, 1, none⟩ (.int .i64 r.ver)).setCell ⟨W7.heap.size, 2, none⟩ (.int .i64 r.kind)).setCell ⟨W7.heap.size, 3, none⟩ (.string (S r.lang))).setCell ⟨W7.heap.size, 4, none⟩ (.slice a8 n p8)) := ⟨rec_set hn9, q8.set5 hn9 _ _ _ _ _⟩
             have hB9 : Below W7.heap.size W7 (((((W8.setCell ⟨W7.heap.size, 0, none⟩ (.int .i64 r.id)).setCell ⟨W7.heap.size, 1, none⟩ (.int .i64 r.ver)).setCell ⟨W7.heap.size, 2, none⟩ (.int .i64 r.kind)).setCell ⟨W7.heap.size, 3, none⟩ (.string (S r.lang))).setCell ⟨W7.heap.size, 4, none⟩ (.slice a8 n p8)) := rec_below hD (Nat.le_refl _) _ _ _ _ _
             revert hR13 hB9
             generalize (((((W8.setCell ⟨W7.heap.size, 0, none⟩ (.int .i64 r.id)).setCell ⟨W7.heap.size, 1, none⟩ (.int .i64 r.ver)).setCell ⟨W7.heap.size, 2, none⟩ (.int .i64 r.kind)).setCell ⟨W7.heap.size, 3, none⟩ (.string (S r.lang))).setCell ⟨W7.heap.size, 4, none⟩ (.slice a8 n p8)) = W9
             intro hR13 hB9
             generalize W7.heap.size = b13 at hR13 ⊢)
          | (have hR13 : RB W8.heap.size r (.slice a8 n p8) (W8.alloc (.cells #[.int .i64 r.id, .int .i64 r.ver, .int .i64 r.kind, .string (S r.lang), .slice a8 n p8] 24)) := RB.new (r := r) q8
             have hB9 : Below W7.heap.size W7 (W8.alloc (.cells #[.int .i64 r.id, .int .i64 r.ver, .int .i64 r.kind, .string (S r.lang), .slice a8 n p8] 24)) := hD.alloc hD.size _
             revert hR13 hB9
             generalize W8.alloc (.cells #[.int .i64 r.id, .int .i64 r.ver, .int .i64 r.kind, .string (S r.lang), .slice a8 n p8] 24) = W9
             intro hR13 hB9
             generalize W8.heap.size = b13 at hR13 ⊢)
        (first | clear hN2 | skip)
        (first | clear z0 z1 z2 z3 z4 f0 f1 f2 f3 f4 | skip)
        (first | clear hN | skip)
        have hX9 := HXw.out W9 hB9
        have hR9' := HRw.out W9 hB9
        have hE9 := HEw.out W9 hB9
        have hb9 := HBw.out.trans (hB9.mono HBw.out.size)
        clear hB9 q8 hb8 hD q0 q1 q2 q3 q4 k0 k1 k2 k3 k4 q0' q1' q2' q3' q4' k0' k1' k2' k3' k4' t0 t1 t2 t3 t0' t1' t2' t3' HXw HRw HEw HBw HA HR cI i1 i2
        obtain ⟨k0, k1, k2, k3, k4⟩ := hX9.cells
        obtain ⟨l0, l1, l2, l3, l4⟩ := hR13.cells
        go_wp2_with fail
        refine (cE.out _ _ _ hX9.q hR13.q).mono ?_
        rintro e w10 ⟨rfl, c⟩
        have hR10 := hR9'.after c
        have hE10 := hE9.after c
        have hb10 := hb9.trans (c.mono hb9.size)
        clear c hR9' hE9 hb9 hX9 hR13 k0 k1 k2 k3 k4 l0 l1 l2 l3 l4
        obtain ⟨k0, k1, k2, k3, k4⟩ := hR10.cells
        go_wp2_with fail
        refine (cRr.out _ _ hE10.e hR10.q).mono ?_
        rintro e w11 ⟨rfl, c⟩
        have hE11 := hE10.after c
        have hb11 := hb10.trans (c.mono hb10.size)
        clear c hE10 hb10 hR10 k0 k1 k2 k3 k4
        go_wp2_with fail
        refine (c0.out _ hE11).mono ?_
        rintro e w12 ⟨rfl, c⟩
        have hb12 := hb11.trans (c.mono hb11.size)
        clear c
        go_wp2
        go_ret
        exact ⟨rfl, hb12⟩
    · obtain ⟨l0, l1, l2, l3, l4⟩ := hX.cells
      clear HIn
      go_wp2_with fail
      refine (c0.out _ hE0).mono ?_
      rintro e w9 ⟨rfl, c⟩
      have hb9 := hb.trans (c.mono hb.size)
      clear c
      go_wp2
      go_ret
      exact ⟨rfl, hb9⟩
end Go.Proofs.YtcnjjdbpcobolaaGreatDoor
