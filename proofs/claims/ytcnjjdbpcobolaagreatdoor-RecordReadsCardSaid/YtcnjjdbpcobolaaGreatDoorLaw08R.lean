/- The statement RecordReads of layer 8 over this translation: it returns true. -/
import Derived.Test.YtcnjjdbpcobolaaGreatDoorQ32
import Derived.Test.YtcnjjdbpcobolaaGreatDoorQ03
import Derived.Test.YtcnjjdbpcobolaaGreatDoorQ23
import Derived.Test.YtcnjjdbpcobolaaGreatDoorQ33
import Derived.Test.YtcnjjdbpcobolaaGreatDoorQ21
import Derived.Test.YtcnjjdbpcobolaaGreatDoorQ34
import Derived.Deep.DeepCutAuto
namespace Go.Proofs.YtcnjjdbpcobolaaGreatDoor
open Go.RowKit Go.PlainAid

def SP.bl (L : List (List UInt8)) : SP := ⟨fun x w => BL x L w, fun _ _ _ h b => h.after b⟩

set_option maxHeartbeats 16000000 in
set_option maxRecDepth 100000 in
theorem lawReads_any (r : Rec) (u : Value) (w : World) (hE : EnvR w) (hu : FL u r.fields w) :
    Calls Tryz.prog 7 #[RV r u] w fun e w' => e = .returned (.bool true) ∧ Below w.heap.size w w' := by
  have c0 := Lib.hid (fun W hE => alive_any W hE)
  have b0 := (Below.refl w.heap.size w).alloc (Nat.le_refl _) (.cells #[.int .i64 r.id, .int .i64 r.ver, .int .i64 r.kind, .string (S r.lang), u] 24)
  have hX := RB.new hu
  obtain ⟨vb, hvb⟩ : ∃ vb, (smallRB r && decide (rightRI r = 0)) = vb := ⟨_, rfl⟩
  have cV := Lib.hid (fun W h => lvalid_any r u W h vb hvb)
  have hE0 := hE.after b0
  obtain ⟨a, cap, rfl, _, _⟩ := hu.length
  obtain ⟨W0, hW0⟩ : ∃ W0, w.alloc (.cells #[.int .i64 r.id, .int .i64 r.ver, .int .i64 r.kind, .string (S r.lang), .slice a r.fields.length cap] 24) = W0 := ⟨_, rfl⟩
  rw [hW0] at b0 hX hE0
  have HW0 := Lib.hid hW0
  clear hW0 hE hu
  unfold RV at cV ⊢
  obtain ⟨lg, hlg⟩ : ∃ lg, S r.lang = lg := ⟨_, rfl⟩
  obtain ⟨n, hn⟩ : ∃ n, r.fields.length = n := ⟨_, rfl⟩
  rw [hlg, hn] at HW0 cV ⊢
  rw [hn] at hX
  obtain ⟨k0, k1, k2, k3, k4⟩ := hX.cells
  rw [hlg] at k3
  cases vb
  · clear hlg hn hvb
    go_enter Tryz.func7, Tryz.ntmps7
    go_upto_region 1 with fail
    rw [HW0.out]
    go_wp2_with fail
    refine (cV.out _ hX.q).mono ?_
    rintro e w1 ⟨rfl, c⟩
    have b1 := b0.trans (c.mono b0.size)
    have hE1 := hE0.after c
    clear c b0 k0 k1 k2 k3 k4
    go_wp2_with fail
    refine (c0.out _ hE1).mono ?_
    rintro e w2 ⟨rfl, c⟩
    have b2 := b1.trans (c.mono b1.size)
    clear c b1
    go_wp2
    go_ret
    exact ⟨rfl, b2⟩
  have hsm : smallRB r = true := by
    cases h : smallRB r
    · rw [h] at hvb; cases hvb
    · rfl
  obtain ⟨hs1, hs2⟩ := smallR_le r hsm
  have hrt : rightRI r = 0 := by
    rw [hsm, Bool.true_and, decide_eq_true_iff] at hvb
    exact hvb
  have hsub : ∀ f ∈ r.fields, f.subs.length ≤ 1000 ∧ ∀ i, (f.subs.getD i sub0).2.length ≤ 1000 := fun f hf => ⟨Nat.le_trans (hs2 f hf).1 (by decide), fun i => Nat.le_trans ((hs2 f hf).2 i) (by decide)⟩
  have htg := right_tags r hrt
  have hall := right_all r hrt
  obtain ⟨cs, hcs, hte, htl⟩ := title_ok r hrt
  obtain ⟨tt, htt⟩ : ∃ tt, T (cleanL cs) = tt := ⟨_, rfl⟩
  have hcl : cs.length ≤ 4000 := by
    have h1 := len_le cs
    have h2 : (T cs).size = (enc cs).length := rfl
    rw [hte] at htl
    omega
  have hST : S (titleL r.fields) = T cs := by rw [hte]; rfl
  have c3 := Lib.hid (fun W (h : FL (.slice a r.fields.length cap) r.fields W) => pTitle_any r _ W h htg hsub tt (fun W2 => clean_is _ tt cs hcs hST (by omega) htt W2))
  have c4 := Lib.hid (fun W (h : FL (.slice a r.fields.length cap) r.fields W) => refTitle_any r _ W h (by omega) hsub tt (fun W2 => refClean_any cs hcs _ tt hST (by rw [S_size]; omega) htt W2) (fun h0 => by
    rw [hte] at h0
    have := enc_none cs h0
    rw [← htt, this]
    rfl))
  obtain ⟨ta, hta⟩ : ∃ ta, S (authorO r.fields atags) = ta := ⟨_, rfl⟩
  have c5 := Lib.hid (fun W (h : FL (.slice a r.fields.length cap) r.fields W) hT => pAuthor_any r _ W hT h htg)
  have c6 := Lib.hid (fun W (h : FL (.slice a r.fields.length cap) r.fields W) => refAuthor_any r _ W h (by omega))
  obtain ⟨yr, hyr⟩ : ∃ yr, yearR r.fields = yr := ⟨_, rfl⟩
  have c7 := Lib.hid (fun W (h : FL (.slice a r.fields.length cap) r.fields W) hE => pYear_any r _ W hE h hsub (fun f hf v hv => (vals_ok f (hall f hf) [99] v hv).1))
  have c8 := Lib.hid (fun W (h : FL (.slice a r.fields.length cap) r.fields W) => refYear_any r _ W h (by omega) hsub)
  obtain ⟨SL, hSL⟩ : ∃ SL, subjR r.fields = SL := ⟨_, rfl⟩
  have c9 := Lib.hid (fun W (h : FL (.slice a r.fields.length cap) r.fields W) => pSubjects_any r _ W h (by omega) hsub)
  have c10 := Lib.hid (fun W (h : FL (.slice a r.fields.length cap) r.fields W) => refSubjects_any r _ W h (by omega) hsub)
  have c11 := Lib.hid (fun x y W hx hy => lsame_any SL SL x y W hx hy true (decide_eq_true rfl))
  unfold RV at c3 c4 c5 c6 c7 c8 c9 c10
  rw [hta] at c5 c6
  rw [hyr] at c7 c8
  rw [hSL] at c9 c10
  rw [hlg, hn] at c3 c4 c5 c6 c7 c8 c9 c10
  clear hta hyr hSL hn hs1 hs2 hsm hrt hvb hST hcl htt hte htl hcs hall htg hsub
  go_enter Tryz.func7, Tryz.ntmps7
  go_upto_region 1 with fail
  rw [HW0.out]
  go_wp2_with fail
  refine (cV.out _ hX.q).mono ?_
  rintro e w1 ⟨rfl, c⟩
  have b1 := b0.trans (c.mono b0.size)
  have hX1 := hX.after c
  have hE1 := hE0.after c
  clear c b0 hX hE0 k0 k1 k2 k3 k4
  have HX := Lib.hid (fun W (h : Below w1.heap.size w1 W) => (hX1.after h).q)
  have HEn := Lib.hid (fun W (h : Below w1.heap.size w1 W) => hE1.after h)
  have HXc : RowKit.Hid (∀ W, Below w1.heap.size w1 W → W.cell? ⟨w.heap.size, 0, none⟩ = some (.int .i64 r.id) ∧ W.cell? ⟨w.heap.size, 1, none⟩ = some (.int .i64 r.ver) ∧ W.cell? ⟨w.heap.size, 2, none⟩ = some (.int .i64 r.kind) ∧ W.cell? ⟨w.heap.size, 3, none⟩ = some (.string lg) ∧ W.cell? ⟨w.heap.size, 4, none⟩ = some (.slice a n cap)) := by
    intro W h
    have := (hX1.after h).cells
    rwa [hlg] at this
  have B1 := Lib.hid b1
  clear hX1 hE1 b1
  go_upto_region 3 with fail
  apply wp_region_inv (V := [.eq (.agg #[.int .i64 r.id, .int .i64 r.ver, .int .i64 r.kind, .string lg, .slice a n cap]), .eq (.string tt), .eq (.agg #[.int .i64 r.id, .int .i64 r.ver, .int .i64 r.kind, .string lg, .slice a n cap]), .eq (.string tt), .eq (.bool true), .eq (.bool true), .eq (.agg #[.int .i64 r.id, .int .i64 r.ver, .int .i64 r.kind, .string lg, .slice a n cap]), .eq (.string ta), .eq (.agg #[.int .i64 r.id, .int .i64 r.ver, .int .i64 r.kind, .string lg, .slice a n cap]), .eq (.string ta), .eq (.bool true), .eq (.bool true), .eq (.bool true), .eq (.agg #[.int .i64 r.id, .int .i64 r.ver, .int .i64 r.kind, .string lg, .slice a n cap]), .eq (.int .i64 yr), .eq (.agg #[.int .i64 r.id, .int .i64 r.ver, .int .i64 r.kind, .string lg, .slice a n cap]), .eq (.int .i64 yr), .eq (.bool true), .eq (.bool true), .eq (.bool true), .eq (.agg #[.int .i64 r.id, .int .i64 r.ver, .int .i64 r.kind, .string lg, .slice a n cap]), .bl SL, .eq (.agg #[.int .i64 r.id, .int .i64 r.ver, .int .i64 r.kind, .string lg, .slice a n cap]), .bl SL, .eq (.bool true), .eq (.bool true), .eq (.bool true), .eq (.bool true), .eq (.bool true), .eq (.bool true)])
  case hm => kernel_rfl
  case hd => kernel_rfl
  case hb => kernel_rfl
  case hA =>
    intro vs
    simp only [puts, Act.put, List.setIfInBounds_toArray, List.set_cons_zero, List.set_cons_succ]
    exact rfl
  case hob =>
    refine Obs.cons _ _ _ _ _ _ ?o0 (Obs.cons _ _ _ _ _ _ ?o1 (Obs.cons _ _ _ _ _ _ ?o2 (Obs.cons _ _ _ _ _ _ ?o3 (Obs.cons _ _ _ _ _ _ ?o4 (Obs.cons _ _ _ _ _ _ ?o5 (Obs.cons _ _ _ _ _ _ ?o6 (Obs.cons _ _ _ _ _ _ ?o7 (Obs.cons _ _ _ _ _ _ ?o8 (Obs.cons _ _ _ _ _ _ ?o9 (Obs.cons _ _ _ _ _ _ ?o10 (Obs.cons _ _ _ _ _ _ ?o11 (Obs.cons _ _ _ _ _ _ ?o12 (Obs.cons _ _ _ _ _ _ ?o13 (Obs.cons _ _ _ _ _ _ ?o14 (Obs.cons _ _ _ _ _ _ ?o15 (Obs.cons _ _ _ _ _ _ ?o16 (Obs.cons _ _ _ _ _ _ ?o17 (Obs.cons _ _ _ _ _ _ ?o18 (Obs.cons _ _ _ _ _ _ ?o19 (Obs.cons _ _ _ _ _ _ ?o20 (Obs.cons _ _ _ _ _ _ ?o21 (Obs.cons _ _ _ _ _ _ ?o22 (Obs.cons _ _ _ _ _ _ ?o23 (Obs.cons _ _ _ _ _ _ ?o24 (Obs.cons _ _ _ _ _ _ ?o25 (Obs.cons _ _ _ _ _ _ ?o26 (Obs.cons _ _ _ _ _ _ ?o27 (Obs.cons _ _ _ _ _ _ ?o28 (Obs.cons _ _ _ _ _ _ ?o29 (Obs.nil _ _ _ _ _ _))))))))))))))))))))))))))))))
    case o0 =>
      intro vs W hw hd K hK
      obtain ⟨k0, k1, k2, k3, k4⟩ := HXc.out W hw
      go_simp
      exact hK.out _ _ rfl (Below.refl _ _)
    case o1 =>
      intro vs W hw hd K hK
      have h0 : vs 0 = .agg #[.int .i64 r.id, .int .i64 r.ver, .int .i64 r.kind, .string lg, .slice a n cap] := hd 0 (by kernel_rfl)
      simp only [Nat.reduceAdd, h0] at hK ⊢
      go_simp
      refine (c3.out W (HX.out W hw)).mono ?_
      rintro e W' ⟨rfl, hb'⟩
      exact hK.out _ _ rfl hb'
    case o2 =>
      intro vs W hw hd K hK
      obtain ⟨k0, k1, k2, k3, k4⟩ := HXc.out W hw
      go_simp
      exact hK.out _ _ rfl (Below.refl _ _)
    case o3 =>
      intro vs W hw hd K hK
      have h2 : vs 2 = .agg #[.int .i64 r.id, .int .i64 r.ver, .int .i64 r.kind, .string lg, .slice a n cap] := hd 2 (by kernel_rfl)
      simp only [Nat.reduceAdd, h2] at hK ⊢
      go_simp
      refine (c4.out W (HX.out W hw)).mono ?_
      rintro e W' ⟨rfl, hb'⟩
      exact hK.out _ _ rfl hb'
    case o4 =>
      intro vs W hw hd K hK
      have h1 : vs 1 = .string tt := hd 1 (by kernel_rfl)
      have h3 : vs 3 = .string tt := hd 3 (by kernel_rfl)
      simp only [Nat.reduceAdd, h1, h3] at hK ⊢
      go_simp
      exact hK.out _ _ rfl (Below.refl _ _)
    case o5 =>
      intro vs W hw hd K hK
      have h4 : vs 4 = .bool true := hd 4 (by kernel_rfl)
      simp only [Nat.reduceAdd, h4] at hK ⊢
      go_simp
      exact hK.out _ _ rfl (Below.refl _ _)
    case o6 =>
      intro vs W hw hd K hK
      have h5 : vs 5 = .bool true := hd 5 (by kernel_rfl)
      obtain ⟨k0, k1, k2, k3, k4⟩ := HXc.out W hw
      simp only [Nat.reduceAdd, h5] at hK ⊢
      go_simp
      exact hK.out _ _ rfl (Below.refl _ _)
    case o7 =>
      intro vs W hw hd K hK
      have h5 : vs 5 = .bool true := hd 5 (by kernel_rfl)
      have h6 : vs 6 = .agg #[.int .i64 r.id, .int .i64 r.ver, .int .i64 r.kind, .string lg, .slice a n cap] := hd 6 (by kernel_rfl)
      simp only [Nat.reduceAdd, h5, h6] at hK ⊢
      go_simp
      refine (c5.out W (HX.out W hw) (HEn.out W hw).a).mono ?_
      rintro e W' ⟨rfl, hb'⟩
      exact hK.out _ _ rfl hb'
    case o8 =>
      intro vs W hw hd K hK
      have h5 : vs 5 = .bool true := hd 5 (by kernel_rfl)
      obtain ⟨k0, k1, k2, k3, k4⟩ := HXc.out W hw
      simp only [Nat.reduceAdd, h5] at hK ⊢
      go_simp
      exact hK.out _ _ rfl (Below.refl _ _)
    case o9 =>
      intro vs W hw hd K hK
      have h5 : vs 5 = .bool true := hd 5 (by kernel_rfl)
      have h8 : vs 8 = .agg #[.int .i64 r.id, .int .i64 r.ver, .int .i64 r.kind, .string lg, .slice a n cap] := hd 8 (by kernel_rfl)
      simp only [Nat.reduceAdd, h5, h8] at hK ⊢
      go_simp
      refine (c6.out W (HX.out W hw)).mono ?_
      rintro e W' ⟨rfl, hb'⟩
      exact hK.out _ _ rfl hb'
    case o10 =>
      intro vs W hw hd K hK
      have h5 : vs 5 = .bool true := hd 5 (by kernel_rfl)
      have h7 : vs 7 = .string ta := hd 7 (by kernel_rfl)
      have h9 : vs 9 = .string ta := hd 9 (by kernel_rfl)
      simp only [Nat.reduceAdd, h5, h7, h9] at hK ⊢
      go_simp
      exact hK.out _ _ rfl (Below.refl _ _)
    case o11 =>
      intro vs W hw hd K hK
      have h5 : vs 5 = .bool true := hd 5 (by kernel_rfl)
      have h10 : vs 10 = .bool true := hd 10 (by kernel_rfl)
      simp only [Nat.reduceAdd, h5, h10] at hK ⊢
      go_simp
      exact hK.out _ _ rfl (Below.refl _ _)
    case o12 =>
      intro vs W hw hd K hK
      have h11 : vs 11 = .bool true := hd 11 (by kernel_rfl)
      simp only [Nat.reduceAdd, h11] at hK ⊢
      go_simp
      exact hK.out _ _ rfl (Below.refl _ _)
    case o13 =>
      intro vs W hw hd K hK
      have h12 : vs 12 = .bool true := hd 12 (by kernel_rfl)
      obtain ⟨k0, k1, k2, k3, k4⟩ := HXc.out W hw
      simp only [Nat.reduceAdd, h12] at hK ⊢
      go_simp
      exact hK.out _ _ rfl (Below.refl _ _)
    case o14 =>
      intro vs W hw hd K hK
      have h12 : vs 12 = .bool true := hd 12 (by kernel_rfl)
      have h13 : vs 13 = .agg #[.int .i64 r.id, .int .i64 r.ver, .int .i64 r.kind, .string lg, .slice a n cap] := hd 13 (by kernel_rfl)
      simp only [Nat.reduceAdd, h12, h13] at hK ⊢
      go_simp
      refine (c7.out W (HX.out W hw) (HEn.out W hw).e).mono ?_
      rintro e W' ⟨rfl, hb'⟩
      exact hK.out _ _ rfl hb'
    case o15 =>
      intro vs W hw hd K hK
      have h12 : vs 12 = .bool true := hd 12 (by kernel_rfl)
      obtain ⟨k0, k1, k2, k3, k4⟩ := HXc.out W hw
      simp only [Nat.reduceAdd, h12] at hK ⊢
      go_simp
      exact hK.out _ _ rfl (Below.refl _ _)
    case o16 =>
      intro vs W hw hd K hK
      have h12 : vs 12 = .bool true := hd 12 (by kernel_rfl)
      have h15 : vs 15 = .agg #[.int .i64 r.id, .int .i64 r.ver, .int .i64 r.kind, .string lg, .slice a n cap] := hd 15 (by kernel_rfl)
      simp only [Nat.reduceAdd, h12, h15] at hK ⊢
      go_simp
      refine (c8.out W (HX.out W hw)).mono ?_
      rintro e W' ⟨rfl, hb'⟩
      exact hK.out _ _ rfl hb'
    case o17 =>
      intro vs W hw hd K hK
      have h12 : vs 12 = .bool true := hd 12 (by kernel_rfl)
      have h14 : vs 14 = .int .i64 yr := hd 14 (by kernel_rfl)
      have h16 : vs 16 = .int .i64 yr := hd 16 (by kernel_rfl)
      simp only [Nat.reduceAdd, h12, h14, h16] at hK ⊢
      go_simp
      exact hK.out _ _ rfl (Below.refl _ _)
    case o18 =>
      intro vs W hw hd K hK
      have h12 : vs 12 = .bool true := hd 12 (by kernel_rfl)
      have h17 : vs 17 = .bool true := hd 17 (by kernel_rfl)
      simp only [Nat.reduceAdd, h12, h17] at hK ⊢
      go_simp
      exact hK.out _ _ rfl (Below.refl _ _)
    case o19 =>
      intro vs W hw hd K hK
      have h18 : vs 18 = .bool true := hd 18 (by kernel_rfl)
      simp only [Nat.reduceAdd, h18] at hK ⊢
      go_simp
      exact hK.out _ _ rfl (Below.refl _ _)
    case o20 =>
      intro vs W hw hd K hK
      have h19 : vs 19 = .bool true := hd 19 (by kernel_rfl)
      obtain ⟨k0, k1, k2, k3, k4⟩ := HXc.out W hw
      simp only [Nat.reduceAdd, h19] at hK ⊢
      go_simp
      exact hK.out _ _ rfl (Below.refl _ _)
    case o21 =>
      intro vs W hw hd K hK
      have h19 : vs 19 = .bool true := hd 19 (by kernel_rfl)
      have h20 : vs 20 = .agg #[.int .i64 r.id, .int .i64 r.ver, .int .i64 r.kind, .string lg, .slice a n cap] := hd 20 (by kernel_rfl)
      simp only [Nat.reduceAdd, h19, h20] at hK ⊢
      go_simp
      refine (c9.out W (HX.out W hw)).mono ?_
      rintro e W' ⟨v', rfl, hq', hb'⟩
      exact hK.out _ _ hq' hb'
    case o22 =>
      intro vs W hw hd K hK
      have h19 : vs 19 = .bool true := hd 19 (by kernel_rfl)
      obtain ⟨k0, k1, k2, k3, k4⟩ := HXc.out W hw
      simp only [Nat.reduceAdd, h19] at hK ⊢
      go_simp
      exact hK.out _ _ rfl (Below.refl _ _)
    case o23 =>
      intro vs W hw hd K hK
      have h19 : vs 19 = .bool true := hd 19 (by kernel_rfl)
      have h22 : vs 22 = .agg #[.int .i64 r.id, .int .i64 r.ver, .int .i64 r.kind, .string lg, .slice a n cap] := hd 22 (by kernel_rfl)
      simp only [Nat.reduceAdd, h19, h22] at hK ⊢
      go_simp
      refine (c10.out W (HX.out W hw)).mono ?_
      rintro e W' ⟨v', rfl, hq', hb'⟩
      exact hK.out _ _ hq' hb'
    case o24 =>
      intro vs W hw hd K hK
      have h19 : vs 19 = .bool true := hd 19 (by kernel_rfl)
      have q21 : BL (vs 21) SL W := hd 21 (by kernel_rfl)
      have q23 : BL (vs 23) SL W := hd 23 (by kernel_rfl)
      simp only [Nat.reduceAdd, h19] at hK ⊢
      go_simp
      refine (c11.out _ _ _ q21 q23).mono ?_
      rintro e W' ⟨rfl, hb'⟩
      exact hK.out _ _ rfl hb'
    case o25 =>
      intro vs W hw hd K hK
      have h19 : vs 19 = .bool true := hd 19 (by kernel_rfl)
      have h24 : vs 24 = .bool true := hd 24 (by kernel_rfl)
      simp only [Nat.reduceAdd, h19, h24] at hK ⊢
      go_simp
      exact hK.out _ _ rfl (Below.refl _ _)
    case o26 =>
      intro vs W hw hd K hK
      have h25 : vs 25 = .bool true := hd 25 (by kernel_rfl)
      simp only [Nat.reduceAdd, h25] at hK ⊢
      go_simp
      exact hK.out _ _ rfl (Below.refl _ _)
    case o27 =>
      intro vs W hw hd K hK
      have h26 : vs 26 = .bool true := hd 26 (by kernel_rfl)
      simp only [Nat.reduceAdd, h26] at hK ⊢
      go_simp
      refine (c0.out W (HEn.out W hw)).mono ?_
      rintro e W' ⟨rfl, hb'⟩
      exact hK.out _ _ rfl hb'
    case o28 =>
      intro vs W hw hd K hK
      have h26 : vs 26 = .bool true := hd 26 (by kernel_rfl)
      have h27 : vs 27 = .bool true := hd 27 (by kernel_rfl)
      simp only [Nat.reduceAdd, h26, h27] at hK ⊢
      go_simp
      exact hK.out _ _ rfl (Below.refl _ _)
    case o29 =>
      intro vs W hw hd K hK
      have h28 : vs 28 = .bool true := hd 28 (by kernel_rfl)
      simp only [Nat.reduceAdd, h28] at hK ⊢
      go_simp
      exact hK.out _ _ rfl (Below.refl _ _)
  case hfin =>
    intro vs W hw hv'
    have hk : vs 29 = .bool true := hv' 29 (by decide)
    simp only [Nat.reduceAdd, hk]
    have b4 := B1.out.trans (hw.mono B1.out.size)
    clear hv' HX HEn HXc c0 c3 c4 c5 c6 c7 c8 c9 c10 c11
    go_wp2
    go_ret
    exact ⟨rfl, b4⟩
end Go.Proofs.YtcnjjdbpcobolaaGreatDoor
