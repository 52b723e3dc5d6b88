/- The statement RecordFields of layer 8 over this translation: it returns true. -/
import Derived.Test.YtcnjjdbpcobolaaGreatDoorQ32
import Derived.Test.YtcnjjdbpcobolaaGreatDoorQ03
import Derived.Test.YtcnjjdbpcobolaaGreatDoorQ23
import Derived.Test.YtcnjjdbpcobolaaGreatDoorQ33
import Derived.Test.YtcnjjdbpcobolaaGreatDoorQ21
import Derived.Test.YtcnjjdbpcobolaaGreatDoorQ34
import Derived.Deep.DeepCutAuto
namespace Go.Proofs.YtcnjjdbpcobolaaGreatDoor
open Go.RowKit Go.PlainAid

set_option maxHeartbeats 16000000 in
set_option maxRecDepth 100000 in
theorem lawFields_any (r : Rec) (u : Value) (p : List UInt8) (w : World) (hE : EnvR w) (hu : FL u r.fields w) :
    Calls Tryz.prog 4 #[RV r u, .string (S p)] w fun e w' => e = .returned (.bool true) ∧ Below w.heap.size w w' := by
  have c0 := Lib.hid (fun W hE => alive_any W hE)
  have b0 := (Below.refl w.heap.size w).alloc (Nat.le_refl _) (.cells #[.int .i64 r.id, .int .i64 r.ver, .int .i64 r.kind, .string (S r.lang), u] 24)
  have hX := RB.new hu
  obtain ⟨vb, hvb⟩ : ∃ vb, (smallRB r && decide (rightRI r = 0)) = vb := ⟨_, rfl⟩
  have cV := Lib.hid (fun W h => lvalid_any r u W h vb hvb)
  have hE0 := hE.after b0
  obtain ⟨a, cap, rfl, _, _⟩ := hu.length
  obtain ⟨W0, hW0⟩ : ∃ W0, w.alloc (.cells #[.int .i64 r.id, .int .i64 r.ver, .int .i64 r.kind, .string (S r.lang), .slice a r.fields.length cap] 24) = W0 := ⟨_, rfl⟩
  rw [hW0] at b0 hX hE0
  have HW0 := Lib.hid hW0
  clear hW0 hE hu
  unfold RV at cV ⊢
  obtain ⟨lg, hlg⟩ : ∃ lg, S r.lang = lg := ⟨_, rfl⟩
  obtain ⟨n, hn⟩ : ∃ n, r.fields.length = n := ⟨_, rfl⟩
  rw [hlg, hn] at HW0 cV ⊢
  rw [hn] at hX
  obtain ⟨k0, k1, k2, k3, k4⟩ := hX.cells
  rw [hlg] at k3
  cases vb
  · clear hlg hn hvb
    go_enter Tryz.func4, Tryz.ntmps4
    go_upto_region 1 with fail
    rw [HW0.out]
    go_wp2_with fail
    refine (cV.out _ hX.q).mono ?_
    rintro e w1 ⟨rfl, c⟩
    have b1 := b0.trans (c.mono b0.size)
    have hE1 := hE0.after c
    clear c b0 k0 k1 k2 k3 k4
    go_wp2_with fail
    refine (c0.out _ hE1).mono ?_
    rintro e w2 ⟨rfl, c⟩
    have b2 := b1.trans (c.mono b1.size)
    clear c b1
    go_wp2
    go_ret
    exact ⟨rfl, b2⟩
  have hsm : smallRB r = true := by
    cases h : smallRB r
    · rw [h] at hvb; cases hvb
    · rfl
  obtain ⟨hs1, hs2⟩ := smallR_le r hsm
  have hrt : rightRI r = 0 := by
    rw [hsm, Bool.true_and, decide_eq_true_iff] at hvb
    exact hvb
  obtain ⟨FF, hFF⟩ : ∃ FF, fieldsL r.fields p = FF := ⟨_, rfl⟩
  have c3 := Lib.hid (fun W (h : FL (.slice a r.fields.length cap) r.fields W) => pFields_any r _ W h p (by omega))
  have c4 := Lib.hid (fun W (h : FL (.slice a r.fields.length cap) r.fields W) => refFields_any r _ W h p (by omega))
  have c5 := Lib.hid (fun x y W hx hy => refSameFields_any FF FF x y W hx hy true ((sameFB_iff FF FF).2 rfl))
  obtain ⟨sp, hsp⟩ : ∃ sp, S p = sp := ⟨_, rfl⟩
  unfold RV at c3 c4
  rw [hFF, hlg, hn, hsp] at c3 c4
  rw [hsp]
  clear hFF hsp hn hs1 hs2 hsm hrt hvb
  go_enter Tryz.func4, Tryz.ntmps4
  go_upto_region 1 with fail
  rw [HW0.out]
  go_wp2_with fail
  refine (cV.out _ hX.q).mono ?_
  rintro e w1 ⟨rfl, c⟩
  have b1 := b0.trans (c.mono b0.size)
  have hX1 := hX.after c
  have hE1 := hE0.after c
  clear c b0 hX hE0 k0 k1 k2 k3 k4
  have HX := Lib.hid (fun W (h : Below w1.heap.size w1 W) => (hX1.after h).q)
  have HEn := Lib.hid (fun W (h : Below w1.heap.size w1 W) => hE1.after h)
  have HXc : RowKit.Hid (∀ W, Below w1.heap.size w1 W → W.cell? ⟨w.heap.size, 0, none⟩ = some (.int .i64 r.id) ∧ W.cell? ⟨w.heap.size, 1, none⟩ = some (.int .i64 r.ver) ∧ W.cell? ⟨w.heap.size, 2, none⟩ = some (.int .i64 r.kind) ∧ W.cell? ⟨w.heap.size, 3, none⟩ = some (.string lg) ∧ W.cell? ⟨w.heap.size, 4, none⟩ = some (.slice a n cap)) := by
    intro W h
    have := (hX1.after h).cells
    rwa [hlg] at this
  have B1 := Lib.hid b1
  clear hX1 hE1 b1
  go_upto_region 3 with fail
  apply wp_region_inv (V := [.eq (.agg #[.int .i64 r.id, .int .i64 r.ver, .int .i64 r.kind, .string lg, .slice a n cap]), .eq (.string sp), .fl FF, .eq (.agg #[.int .i64 r.id, .int .i64 r.ver, .int .i64 r.kind, .string lg, .slice a n cap]), .eq (.string sp), .fl FF, .eq (.bool true), .eq (.bool true), .eq (.bool true), .eq (.bool true), .eq (.bool true)])
  case hm => kernel_rfl
  case hd => kernel_rfl
  case hb => kernel_rfl
  case hA =>
    intro vs
    simp only [puts, Act.put, List.setIfInBounds_toArray, List.set_cons_zero, List.set_cons_succ]
    exact rfl
  case hob =>
    refine Obs.cons _ _ _ _ _ _ ?o0 (Obs.cons _ _ _ _ _ _ ?o1 (Obs.cons _ _ _ _ _ _ ?o2 (Obs.cons _ _ _ _ _ _ ?o3 (Obs.cons _ _ _ _ _ _ ?o4 (Obs.cons _ _ _ _ _ _ ?o5 (Obs.cons _ _ _ _ _ _ ?o6 (Obs.cons _ _ _ _ _ _ ?o7 (Obs.cons _ _ _ _ _ _ ?o8 (Obs.cons _ _ _ _ _ _ ?o9 (Obs.cons _ _ _ _ _ _ ?o10 (Obs.nil _ _ _ _ _ _)))))))))))
    case o0 =>
      intro vs W hw hd K hK
      obtain ⟨k0, k1, k2, k3, k4⟩ := HXc.out W hw
      go_simp
      exact hK.out _ _ rfl (Below.refl _ _)
    case o1 =>
      intro vs W hw hd K hK
      go_simp
      exact hK.out _ _ rfl (Below.refl _ _)
    case o2 =>
      intro vs W hw hd K hK
      have h0 : vs 0 = .agg #[.int .i64 r.id, .int .i64 r.ver, .int .i64 r.kind, .string lg, .slice a n cap] := hd 0 (by kernel_rfl)
      have h1 : vs 1 = .string sp := hd 1 (by kernel_rfl)
      simp only [Nat.reduceAdd, h0, h1] at hK ⊢
      go_simp
      refine (c3.out W (HX.out W hw)).mono ?_
      rintro e W' ⟨v', rfl, hq', hb'⟩
      exact hK.out _ _ hq' hb'
    case o3 =>
      intro vs W hw hd K hK
      obtain ⟨k0, k1, k2, k3, k4⟩ := HXc.out W hw
      go_simp
      exact hK.out _ _ rfl (Below.refl _ _)
    case o4 =>
      intro vs W hw hd K hK
      go_simp
      exact hK.out _ _ rfl (Below.refl _ _)
    case o5 =>
      intro vs W hw hd K hK
      have h3 : vs 3 = .agg #[.int .i64 r.id, .int .i64 r.ver, .int .i64 r.kind, .string lg, .slice a n cap] := hd 3 (by kernel_rfl)
      have h4 : vs 4 = .string sp := hd 4 (by kernel_rfl)
      simp only [Nat.reduceAdd, h3, h4] at hK ⊢
      go_simp
      refine (c4.out W (HX.out W hw)).mono ?_
      rintro e W' ⟨v', rfl, hq', hb'⟩
      exact hK.out _ _ hq' hb'
    case o6 =>
      intro vs W hw hd K hK
      have q2 : FL (vs 2) FF W := hd 2 (by kernel_rfl)
      have q5 : FL (vs 5) FF W := hd 5 (by kernel_rfl)
      simp only [Nat.reduceAdd] at hK ⊢
      go_simp
      refine (c5.out _ _ _ q2 q5).mono ?_
      rintro e W' ⟨rfl, hb'⟩
      exact hK.out _ _ rfl hb'
    case o7 =>
      intro vs W hw hd K hK
      have h6 : vs 6 = .bool true := hd 6 (by kernel_rfl)
      simp only [Nat.reduceAdd, h6] at hK ⊢
      go_simp
      exact hK.out _ _ rfl (Below.refl _ _)
    case o8 =>
      intro vs W hw hd K hK
      have h7 : vs 7 = .bool true := hd 7 (by kernel_rfl)
      simp only [Nat.reduceAdd, h7] at hK ⊢
      go_simp
      refine (c0.out W (HEn.out W hw)).mono ?_
      rintro e W' ⟨rfl, hb'⟩
      exact hK.out _ _ rfl hb'
    case o9 =>
      intro vs W hw hd K hK
      have h7 : vs 7 = .bool true := hd 7 (by kernel_rfl)
      have h8 : vs 8 = .bool true := hd 8 (by kernel_rfl)
      simp only [Nat.reduceAdd, h7, h8] at hK ⊢
      go_simp
      exact hK.out _ _ rfl (Below.refl _ _)
    case o10 =>
      intro vs W hw hd K hK
      have h9 : vs 9 = .bool true := hd 9 (by kernel_rfl)
      simp only [Nat.reduceAdd, h9] at hK ⊢
      go_simp
      exact hK.out _ _ rfl (Below.refl _ _)
  case hfin =>
    intro vs W hw hv'
    have hk : vs 10 = .bool true := hv' 10 (by decide)
    simp only [Nat.reduceAdd, hk]
    have b4 := B1.out.trans (hw.mono B1.out.size)
    clear hv' HX HEn HXc c0 c3 c4 c5
    go_wp2
    go_ret
    exact ⟨rfl, b4⟩
end Go.Proofs.YtcnjjdbpcobolaaGreatDoor
