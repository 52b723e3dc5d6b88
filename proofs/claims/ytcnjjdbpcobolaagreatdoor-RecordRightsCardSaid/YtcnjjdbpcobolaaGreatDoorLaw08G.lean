/- The statement RecordRights of layer 8 over this translation: it returns true. -/
import Derived.Test.YtcnjjdbpcobolaaGreatDoorQ32
import Derived.Test.YtcnjjdbpcobolaaGreatDoorQ03
import Derived.Test.YtcnjjdbpcobolaaGreatDoorQ14
import Derived.Deep.DeepCutAuto
namespace Go.Proofs.YtcnjjdbpcobolaaGreatDoor
open Go.RowKit Go.PlainAid

set_option maxHeartbeats 16000000 in
set_option maxRecDepth 100000 in
theorem lawRights_any (a : Rec) (ua : Value) (b : Rec) (ub : Value) (w : World) (hE : EnvR w) (ha : FL ua a.fields w) (hla : a.lang.length ≤ maxLen) (hb : FL ub b.fields w) (_hlb : b.lang.length ≤ maxLen) :
    Calls Tryz.prog 3 #[RV a ua, RV b ub] w fun e w' => e = .returned (.bool true) ∧ Below w.heap.size w w' := by
  have c0 := Lib.hid (fun W hE => alive_any W hE)
  obtain ⟨sa, hsa⟩ : ∃ s, smallRB a = s := ⟨_, rfl⟩
  obtain ⟨s2, hsb⟩ : ∃ s, smallRB b = s := ⟨_, rfl⟩
  have cA := Lib.hid (fun W (h : FL ua a.fields W) => refSmall_any a ua W h sa hsa)
  have cB := Lib.hid (fun W (h : FL ub b.fields W) => refSmall_any b ub W h s2 hsb)
  have hAl := (Below.refl w.heap.size w).alloc (Nat.le_refl _) (.cells #[.int .i64 a.id, .int .i64 a.ver, .int .i64 a.kind, .string (S a.lang), ua] 24)
  have hX := RB.new ha
  have hsz : (w.alloc (.cells #[.int .i64 a.id, .int .i64 a.ver, .int .i64 a.kind, .string (S a.lang), ua] 24)).heap.size = w.heap.size + 1 := by simp
  have hY := RB.new (hb.after hAl)
  have hBl := (Below.refl (w.alloc (.cells #[.int .i64 a.id, .int .i64 a.ver, .int .i64 a.kind, .string (S a.lang), ua] 24)).heap.size (w.alloc (.cells #[.int .i64 a.id, .int .i64 a.ver, .int .i64 a.kind, .string (S a.lang), ua] 24))).alloc (Nat.le_refl _) (.cells #[.int .i64 b.id, .int .i64 b.ver, .int .i64 b.kind, .string (S b.lang), ub] 24)
  have hX2 := hX.after hBl
  rw [hsz] at hY
  have b0 := hAl.trans (hBl.mono hAl.size)
  have hE0 := hE.after b0
  obtain ⟨ea, hea⟩ : ∃ e, rightRI a = e := ⟨_, rfl⟩
  obtain ⟨sb, hss⟩ : ∃ s, sameRB a b = s := ⟨_, rfl⟩
  have cRi := Lib.hid (fun (hs : smallRB a = true) W (hEW : EnvR W) (h : FL ua a.fields W) => pRight_any a ua W hEW.e h hla (small_hz a hs) ea hea)
  have cri := Lib.hid (fun (hs : smallRB a = true) W (h : FL ua a.fields W) => refRight08_any a ua W h (small_hz a hs) ea hea)
  have cS := Lib.hid (fun W (h : FL ua a.fields W) (h2 : FL ub b.fields W) => pSame_any a b ua ub W h h2 sb hss)
  have cs := Lib.hid (fun W (h : FL ua a.fields W) (h2 : FL ub b.fields W) => refSame08_any a b ua ub W h h2 sb hss)
  have cT := Lib.hid (fun W (h : FL ua a.fields W) => pSame_any a a ua ua W h h true ((sameRB_iff a a).2 rfl))
  obtain ⟨aa, ac, rfl, _, _⟩ := ha.length
  obtain ⟨ba, bc, rfl, _, _⟩ := hb.length
  unfold RV at cA cB cRi cri cS cs cT ⊢
  obtain ⟨W0, hW0⟩ : ∃ W0, (w.alloc (.cells #[.int .i64 a.id, .int .i64 a.ver, .int .i64 a.kind, .string (S a.lang), .slice aa a.fields.length ac] 24)).alloc (.cells #[.int .i64 b.id, .int .i64 b.ver, .int .i64 b.kind, .string (S b.lang), .slice ba b.fields.length bc] 24) = W0 := ⟨_, rfl⟩
  rw [hW0] at b0 hX2 hY hE0
  have HW0 := Lib.hid hW0
  have HCa := Lib.hid (fun W (h : RB w.heap.size a (.slice aa a.fields.length ac) W) => h.cells)
  have HCb := Lib.hid (fun W (h : RB (w.heap.size + 1) b (.slice ba b.fields.length bc) W) => h.cells)
  have cRj : RowKit.Hid (sa = true → smallRB a = true) := fun h => hsa.trans h
  clear hW0 hsz hAl hBl hX hE ha hb hla hsa hsb hea hss
  obtain ⟨ai, hai⟩ : ∃ x, a.id = x := ⟨_, rfl⟩
  obtain ⟨av, hav⟩ : ∃ x, a.ver = x := ⟨_, rfl⟩
  obtain ⟨ak, hak⟩ : ∃ x, a.kind = x := ⟨_, rfl⟩
  obtain ⟨al, hal⟩ : ∃ x, S a.lang = x := ⟨_, rfl⟩
  obtain ⟨an, han⟩ : ∃ x, a.fields.length = x := ⟨_, rfl⟩
  obtain ⟨bi, hbi⟩ : ∃ x, b.id = x := ⟨_, rfl⟩
  obtain ⟨bv, hbv⟩ : ∃ x, b.ver = x := ⟨_, rfl⟩
  obtain ⟨bk, hbk⟩ : ∃ x, b.kind = x := ⟨_, rfl⟩
  obtain ⟨bl, hbl⟩ : ∃ x, S b.lang = x := ⟨_, rfl⟩
  obtain ⟨bn, hbn⟩ : ∃ x, b.fields.length = x := ⟨_, rfl⟩
  rw [hai, hav, hak, hal, han] at HW0 HCa cA cRi cri cS cs cT ⊢
  rw [hbi, hbv, hbk, hbl, hbn] at HW0 HCb cB cS cs ⊢
  rw [han] at hX2
  rw [hbn] at hY
  clear hai hav hak hal han hbi hbv hbk hbl hbn
  obtain ⟨k0, k1, k2, k3, k4⟩ := HCa.out _ hX2
  obtain ⟨j0, j1, j2, j3, j4⟩ := HCb.out _ hY
  go_enter Tryz.func3, Tryz.ntmps3
  go_upto_region 1 with fail
  rw [HW0.out]
  clear HW0
  go_wp2_with fail
  refine (cA.out _ hX2.q).mono ?_
  rintro e w1 ⟨rfl, c⟩
  have b1 := b0.trans (c.mono b0.size)
  have hX3 := hX2.after c
  have hY3 := hY.after c
  have hE1 := hE0.after c
  clear c b0 hX2 hY hE0 k0 k1 k2 k3 k4 j0 j1 j2 j3 j4 cA
  cases sa
  · go_wp2_with fail
    refine (c0.out _ hE1).mono ?_
    rintro e w2 ⟨rfl, c⟩
    have b2 := b1.trans (c.mono b1.size)
    clear c b1
    go_wp2
    go_ret
    exact ⟨rfl, b2⟩
  have cR := Lib.hid (cRi.out (cRj.out (by trivial)))
  have cr := Lib.hid (cri.out (cRj.out (by trivial)))
  clear cRi cri cRj
  obtain ⟨j0, j1, j2, j3, j4⟩ := HCb.out _ hY3
  go_wp2_with fail
  refine (cB.out _ hY3.q).mono ?_
  rintro e w2 ⟨rfl, c⟩
  have b2 := b1.trans (c.mono b1.size)
  have hX4 := hX3.after c
  have hY4 := hY3.after c
  have hE2 := hE1.after c
  clear c b1 hX3 hY3 hE1 j0 j1 j2 j3 j4 cB
  cases s2
  · go_wp2_with fail
    refine (c0.out _ hE2).mono ?_
    rintro e w3 ⟨rfl, c⟩
    have b3 := b2.trans (c.mono b2.size)
    clear c b2
    go_wp2
    go_ret
    exact ⟨rfl, b3⟩
  have HAq := Lib.hid (fun W (h : Below w2.heap.size w2 W) => (hX4.after h).q)
  have HBq := Lib.hid (fun W (h : Below w2.heap.size w2 W) => (hY4.after h).q)
  have HAc := Lib.hid (fun W (h : Below w2.heap.size w2 W) => HCa.out _ (hX4.after h))
  have HBc := Lib.hid (fun W (h : Below w2.heap.size w2 W) => HCb.out _ (hY4.after h))
  have HEn := Lib.hid (fun W (h : Below w2.heap.size w2 W) => hE2.after h)
  have HEr := Lib.hid (fun W (h : Below w2.heap.size w2 W) => hE2.after h)
  have B1 := Lib.hid b2
  clear hX4 hY4 hE2 b2 HCa HCb
  go_upto_region 3 with fail
  apply wp_region_inv (V := [.eq (.agg #[.int .i64 ai, .int .i64 av, .int .i64 ak, .string al, .slice aa an ac]), .eq (.int .i64 ea), .eq (.agg #[.int .i64 ai, .int .i64 av, .int .i64 ak, .string al, .slice aa an ac]), .eq (.int .i64 ea), .eq (.bool true), .eq (.bool true), .eq (.agg #[.int .i64 ai, .int .i64 av, .int .i64 ak, .string al, .slice aa an ac]), .eq (.agg #[.int .i64 bi, .int .i64 bv, .int .i64 bk, .string bl, .slice ba bn bc]), .eq (.bool sb), .eq (.agg #[.int .i64 ai, .int .i64 av, .int .i64 ak, .string al, .slice aa an ac]), .eq (.agg #[.int .i64 bi, .int .i64 bv, .int .i64 bk, .string bl, .slice ba bn bc]), .eq (.bool sb), .eq (.bool true), .eq (.bool true), .eq (.bool true), .eq (.agg #[.int .i64 ai, .int .i64 av, .int .i64 ak, .string al, .slice aa an ac]), .eq (.agg #[.int .i64 ai, .int .i64 av, .int .i64 ak, .string al, .slice aa an ac]), .eq (.bool true), .eq (.bool true), .eq (.bool true), .eq (.bool true), .eq (.bool true), .eq (.bool true)])
  case hm => kernel_rfl
  case hd => kernel_rfl
  case hb => kernel_rfl
  case hA =>
    intro vs
    simp only [puts, Act.put, List.setIfInBounds_toArray, List.set_cons_zero, List.set_cons_succ]
    exact rfl
  case hob =>
    refine Obs.cons _ _ _ _ _ _ ?o0 (Obs.cons _ _ _ _ _ _ ?o1 (Obs.cons _ _ _ _ _ _ ?o2 (Obs.cons _ _ _ _ _ _ ?o3 (Obs.cons _ _ _ _ _ _ ?o4 (Obs.cons _ _ _ _ _ _ ?o5 (Obs.cons _ _ _ _ _ _ ?o6 (Obs.cons _ _ _ _ _ _ ?o7 (Obs.cons _ _ _ _ _ _ ?o8 (Obs.cons _ _ _ _ _ _ ?o9 (Obs.cons _ _ _ _ _ _ ?o10 (Obs.cons _ _ _ _ _ _ ?o11 (Obs.cons _ _ _ _ _ _ ?o12 (Obs.cons _ _ _ _ _ _ ?o13 (Obs.cons _ _ _ _ _ _ ?o14 (Obs.cons _ _ _ _ _ _ ?o15 (Obs.cons _ _ _ _ _ _ ?o16 (Obs.cons _ _ _ _ _ _ ?o17 (Obs.cons _ _ _ _ _ _ ?o18 (Obs.cons _ _ _ _ _ _ ?o19 (Obs.cons _ _ _ _ _ _ ?o20 (Obs.cons _ _ _ _ _ _ ?o21 (Obs.cons _ _ _ _ _ _ ?o22 (Obs.nil _ _ _ _ _ _)))))))))))))))))))))))
    case o0 =>
      intro vs W hw hd K hK
      obtain ⟨k0, k1, k2, k3, k4⟩ := HAc.out W hw
      go_simp
      exact hK.out _ _ rfl (Below.refl _ _)
    case o1 =>
      intro vs W hw hd K hK
      have h0 : vs 0 = .agg #[.int .i64 ai, .int .i64 av, .int .i64 ak, .string al, .slice aa an ac] := hd 0 (by kernel_rfl)
      simp only [Nat.reduceAdd, h0] at hK ⊢
      go_simp
      refine (cR.out W (HEn.out W hw) (HAq.out W hw)).mono ?_
      rintro e W' ⟨rfl, hb'⟩
      exact hK.out _ _ rfl hb'
    case o2 =>
      intro vs W hw hd K hK
      obtain ⟨k0, k1, k2, k3, k4⟩ := HAc.out W hw
      go_simp
      exact hK.out _ _ rfl (Below.refl _ _)
    case o3 =>
      intro vs W hw hd K hK
      have h2 : vs 2 = .agg #[.int .i64 ai, .int .i64 av, .int .i64 ak, .string al, .slice aa an ac] := hd 2 (by kernel_rfl)
      simp only [Nat.reduceAdd, h2] at hK ⊢
      go_simp
      refine (cr.out W (HAq.out W hw)).mono ?_
      rintro e W' ⟨rfl, hb'⟩
      exact hK.out _ _ rfl hb'
    case o4 =>
      intro vs W hw hd K hK
      have h1 : vs 1 = .int .i64 ea := hd 1 (by kernel_rfl)
      have h3 : vs 3 = .int .i64 ea := hd 3 (by kernel_rfl)
      simp only [Nat.reduceAdd, h1, h3] at hK ⊢
      go_simp
      exact hK.out _ _ rfl (Below.refl _ _)
    case o5 =>
      intro vs W hw hd K hK
      have h4 : vs 4 = .bool true := hd 4 (by kernel_rfl)
      simp only [Nat.reduceAdd, h4] at hK ⊢
      go_simp
      exact hK.out _ _ rfl (Below.refl _ _)
    case o6 =>
      intro vs W hw hd K hK
      have h5 : vs 5 = .bool true := hd 5 (by kernel_rfl)
      obtain ⟨k0, k1, k2, k3, k4⟩ := HAc.out W hw
      simp only [Nat.reduceAdd, h5] at hK ⊢
      go_simp
      exact hK.out _ _ rfl (Below.refl _ _)
    case o7 =>
      intro vs W hw hd K hK
      have h5 : vs 5 = .bool true := hd 5 (by kernel_rfl)
      obtain ⟨k0, k1, k2, k3, k4⟩ := HBc.out W hw
      simp only [Nat.reduceAdd, h5] at hK ⊢
      go_simp
      exact hK.out _ _ rfl (Below.refl _ _)
    case o8 =>
      intro vs W hw hd K hK
      have h5 : vs 5 = .bool true := hd 5 (by kernel_rfl)
      have h6 : vs 6 = .agg #[.int .i64 ai, .int .i64 av, .int .i64 ak, .string al, .slice aa an ac] := hd 6 (by kernel_rfl)
      have h7 : vs 7 = .agg #[.int .i64 bi, .int .i64 bv, .int .i64 bk, .string bl, .slice ba bn bc] := hd 7 (by kernel_rfl)
      simp only [Nat.reduceAdd, h5, h6, h7] at hK ⊢
      go_simp
      refine (cS.out W (HAq.out W hw) (HBq.out W hw)).mono ?_
      rintro e W' ⟨rfl, hb'⟩
      exact hK.out _ _ rfl hb'
    case o9 =>
      intro vs W hw hd K hK
      have h5 : vs 5 = .bool true := hd 5 (by kernel_rfl)
      obtain ⟨k0, k1, k2, k3, k4⟩ := HAc.out W hw
      simp only [Nat.reduceAdd, h5] at hK ⊢
      go_simp
      exact hK.out _ _ rfl (Below.refl _ _)
    case o10 =>
      intro vs W hw hd K hK
      have h5 : vs 5 = .bool true := hd 5 (by kernel_rfl)
      obtain ⟨k0, k1, k2, k3, k4⟩ := HBc.out W hw
      simp only [Nat.reduceAdd, h5] at hK ⊢
      go_simp
      exact hK.out _ _ rfl (Below.refl _ _)
    case o11 =>
      intro vs W hw hd K hK
      have h5 : vs 5 = .bool true := hd 5 (by kernel_rfl)
      have h9 : vs 9 = .agg #[.int .i64 ai, .int .i64 av, .int .i64 ak, .string al, .slice aa an ac] := hd 9 (by kernel_rfl)
      have h10 : vs 10 = .agg #[.int .i64 bi, .int .i64 bv, .int .i64 bk, .string bl, .slice ba bn bc] := hd 10 (by kernel_rfl)
      simp only [Nat.reduceAdd, h5, h9, h10] at hK ⊢
      go_simp
      refine (cs.out W (HAq.out W hw) (HBq.out W hw)).mono ?_
      rintro e W' ⟨rfl, hb'⟩
      exact hK.out _ _ rfl hb'
    case o12 =>
      intro vs W hw hd K hK
      have h5 : vs 5 = .bool true := hd 5 (by kernel_rfl)
      have h8 : vs 8 = .bool sb := hd 8 (by kernel_rfl)
      have h11 : vs 11 = .bool sb := hd 11 (by kernel_rfl)
      have hbb : (sb == sb) = true := by simp
      simp only [Nat.reduceAdd, h5, h8, h11] at hK ⊢
      go_simp
      exact hK.out _ _ rfl (Below.refl _ _)
    case o13 =>
      intro vs W hw hd K hK
      have h5 : vs 5 = .bool true := hd 5 (by kernel_rfl)
      have h12 : vs 12 = .bool true := hd 12 (by kernel_rfl)
      simp only [Nat.reduceAdd, h5, h12] at hK ⊢
      go_simp
      exact hK.out _ _ rfl (Below.refl _ _)
    case o14 =>
      intro vs W hw hd K hK
      have h13 : vs 13 = .bool true := hd 13 (by kernel_rfl)
      simp only [Nat.reduceAdd, h13] at hK ⊢
      go_simp
      exact hK.out _ _ rfl (Below.refl _ _)
    case o15 =>
      intro vs W hw hd K hK
      have h14 : vs 14 = .bool true := hd 14 (by kernel_rfl)
      obtain ⟨k0, k1, k2, k3, k4⟩ := HAc.out W hw
      simp only [Nat.reduceAdd, h14] at hK ⊢
      go_simp
      exact hK.out _ _ rfl (Below.refl _ _)
    case o16 =>
      intro vs W hw hd K hK
      have h14 : vs 14 = .bool true := hd 14 (by kernel_rfl)
      obtain ⟨k0, k1, k2, k3, k4⟩ := HAc.out W hw
      simp only [Nat.reduceAdd, h14] at hK ⊢
      go_simp
      exact hK.out _ _ rfl (Below.refl _ _)
    case o17 =>
      intro vs W hw hd K hK
      have h14 : vs 14 = .bool true := hd 14 (by kernel_rfl)
      have h15 : vs 15 = .agg #[.int .i64 ai, .int .i64 av, .int .i64 ak, .string al, .slice aa an ac] := hd 15 (by kernel_rfl)
      have h16 : vs 16 = .agg #[.int .i64 ai, .int .i64 av, .int .i64 ak, .string al, .slice aa an ac] := hd 16 (by kernel_rfl)
      simp only [Nat.reduceAdd, h14, h15, h16] at hK ⊢
      go_simp
      refine (cT.out W (HAq.out W hw)).mono ?_
      rintro e W' ⟨rfl, hb'⟩
      exact hK.out _ _ rfl hb'
    case o18 =>
      intro vs W hw hd K hK
      have h14 : vs 14 = .bool true := hd 14 (by kernel_rfl)
      have h17 : vs 17 = .bool true := hd 17 (by kernel_rfl)
      simp only [Nat.reduceAdd, h14, h17] at hK ⊢
      go_simp
      exact hK.out _ _ rfl (Below.refl _ _)
    case o19 =>
      intro vs W hw hd K hK
      have h18 : vs 18 = .bool true := hd 18 (by kernel_rfl)
      simp only [Nat.reduceAdd, h18] at hK ⊢
      go_simp
      exact hK.out _ _ rfl (Below.refl _ _)
    case o20 =>
      intro vs W hw hd K hK
      have h19 : vs 19 = .bool true := hd 19 (by kernel_rfl)
      simp only [Nat.reduceAdd, h19] at hK ⊢
      go_simp
      refine (c0.out W (HEr.out W hw)).mono ?_
      rintro e W' ⟨rfl, hb'⟩
      exact hK.out _ _ rfl hb'
    case o21 =>
      intro vs W hw hd K hK
      have h19 : vs 19 = .bool true := hd 19 (by kernel_rfl)
      have h20 : vs 20 = .bool true := hd 20 (by kernel_rfl)
      simp only [Nat.reduceAdd, h19, h20] at hK ⊢
      go_simp
      exact hK.out _ _ rfl (Below.refl _ _)
    case o22 =>
      intro vs W hw hd K hK
      have h21 : vs 21 = .bool true := hd 21 (by kernel_rfl)
      simp only [Nat.reduceAdd, h21] at hK ⊢
      go_simp
      exact hK.out _ _ rfl (Below.refl _ _)
  case hfin =>
    intro vs W hw hv'
    have hk : vs 22 = .bool true := hv' 22 (by decide)
    simp only [Nat.reduceAdd, hk]
    have b4 := B1.out.trans (hw.mono B1.out.size)
    clear hv' HAc HBc HAq HBq HEn HEr c0 cR cr cS cs cT
    go_wp2
    go_ret
    exact ⟨rfl, b4⟩
end Go.Proofs.YtcnjjdbpcobolaaGreatDoor
