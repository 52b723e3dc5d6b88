/- The statement RecordSorts of layer 8 over this translation: it returns true. -/
import Derived.Test.YtcnjjdbpcobolaaGreatDoorQ32
import Derived.Test.YtcnjjdbpcobolaaGreatDoorQ03
import Derived.Test.YtcnjjdbpcobolaaGreatDoorQ23
import Derived.Test.YtcnjjdbpcobolaaGreatDoorQ33
import Derived.Test.YtcnjjdbpcobolaaGreatDoorQ21
import Derived.Test.YtcnjjdbpcobolaaGreatDoorQ34
import Derived.Deep.DeepCutAuto
namespace Go.Proofs.YtcnjjdbpcobolaaGreatDoor
open Go.RowKit Go.PlainAid

def SP.sr (r : Rec) (lg : ByteArray) : SP := ⟨fun x w => ∃ v N, x = .agg #[.int .i64 r.id, .int .i64 r.ver, .int .i64 r.kind, .string lg, v] ∧ Stab Fld.tag N r.fields ∧ FL v N w, fun _ _ _ h b => by
  obtain ⟨v, N, h1, h2, h3⟩ := h
  exact ⟨v, N, h1, h2, h3.after b⟩⟩

set_option maxHeartbeats 16000000 in
set_option maxRecDepth 100000 in
theorem lawSorts_any (r : Rec) (u : Value) (w : World) (hE : EnvR w) (hu : FL u r.fields w) :
    Calls Tryz.prog 6 #[RV r u] w fun e w' => e = .returned (.bool true) ∧ Below w.heap.size w w' := by
  have c0 := Lib.hid (fun W hE => alive_any W hE)
  have b0 := (Below.refl w.heap.size w).alloc (Nat.le_refl _) (.cells #[.int .i64 r.id, .int .i64 r.ver, .int .i64 r.kind, .string (S r.lang), u] 24)
  have hX := RB.new hu
  obtain ⟨vb, hvb⟩ : ∃ vb, (smallRB r && decide (rightRI r = 0)) = vb := ⟨_, rfl⟩
  have cV := Lib.hid (fun W h => lvalid_any r u W h vb hvb)
  have hE0 := hE.after b0
  obtain ⟨a, cap, rfl, _, _⟩ := hu.length
  obtain ⟨W0, hW0⟩ : ∃ W0, w.alloc (.cells #[.int .i64 r.id, .int .i64 r.ver, .int .i64 r.kind, .string (S r.lang), .slice a r.fields.length cap] 24) = W0 := ⟨_, rfl⟩
  rw [hW0] at b0 hX hE0
  have HW0 := Lib.hid hW0
  clear hW0 hE hu
  unfold RV at cV ⊢
  obtain ⟨lg, hlg⟩ : ∃ lg, S r.lang = lg := ⟨_, rfl⟩
  obtain ⟨n, hn⟩ : ∃ n, r.fields.length = n := ⟨_, rfl⟩
  rw [hlg, hn] at HW0 cV ⊢
  rw [hn] at hX
  obtain ⟨k0, k1, k2, k3, k4⟩ := hX.cells
  rw [hlg] at k3
  have HX := Lib.hid (fun W (h : Below W0.heap.size W0 W) => (hX.after h).q)
  have HEn := Lib.hid (fun W (h : Below W0.heap.size W0 W) => hE0.after h)
  have HXc : RowKit.Hid (∀ W, Below W0.heap.size W0 W → W.cell? ⟨w.heap.size, 0, none⟩ = some (.int .i64 r.id) ∧ W.cell? ⟨w.heap.size, 1, none⟩ = some (.int .i64 r.ver) ∧ W.cell? ⟨w.heap.size, 2, none⟩ = some (.int .i64 r.kind) ∧ W.cell? ⟨w.heap.size, 3, none⟩ = some (.string lg) ∧ W.cell? ⟨w.heap.size, 4, none⟩ = some (.slice a n cap)) := by
    intro W h
    have := (hX.after h).cells
    rwa [hlg] at this
  have B1 := Lib.hid b0
  clear hX hE0 b0 k0 k1 k2 k3 k4
  cases vb
  · clear hlg hn hvb
    go_enter Tryz.func6, Tryz.ntmps6
    go_upto_region 1 with fail
    rw [HW0.out]
    apply wp_region_inv (V := [.eq (.agg #[.int .i64 r.id, .int .i64 r.ver, .int .i64 r.kind, .string lg, .slice a n cap]), .eq (.bool false), .eq (.bool true), .eq (.bool true), .any, .any, .any, .any, .any, .eq (.bool true), .eq (.bool true), .eq (.bool true), .eq (.bool true), .eq (.bool true)])
    case hm => kernel_rfl
    case hd => kernel_rfl
    case hb => kernel_rfl
    case hA =>
      intro vs
      simp only [puts, Act.put, List.setIfInBounds_toArray, List.set_cons_zero, List.set_cons_succ]
      exact rfl
    case hob =>
      refine Obs.cons _ _ _ _ _ _ ?o0 (Obs.cons _ _ _ _ _ _ ?o1 (Obs.cons _ _ _ _ _ _ ?o2 (Obs.cons _ _ _ _ _ _ ?o3 (Obs.cons _ _ _ _ _ _ ?o4 (Obs.cons _ _ _ _ _ _ ?o5 (Obs.cons _ _ _ _ _ _ ?o6 (Obs.cons _ _ _ _ _ _ ?o7 (Obs.cons _ _ _ _ _ _ ?o8 (Obs.cons _ _ _ _ _ _ ?o9 (Obs.cons _ _ _ _ _ _ ?o10 (Obs.cons _ _ _ _ _ _ ?o11 (Obs.cons _ _ _ _ _ _ ?o12 (Obs.cons _ _ _ _ _ _ ?o13 (Obs.nil _ _ _ _ _ _))))))))))))))
      case o0 =>
        intro vs W hw hd K hK
        obtain ⟨k0, k1, k2, k3, k4⟩ := HXc.out W hw
        go_simp
        exact hK.out _ _ rfl (Below.refl _ _)
      case o1 =>
        intro vs W hw hd K hK
        have h0 : vs 0 = .agg #[.int .i64 r.id, .int .i64 r.ver, .int .i64 r.kind, .string lg, .slice a n cap] := hd 0 (by kernel_rfl)
        simp only [Nat.reduceAdd, h0] at hK ⊢
        go_simp
        refine (cV.out W (HX.out W hw)).mono ?_
        rintro e W' ⟨rfl, hb'⟩
        exact hK.out _ _ rfl hb'
      case o2 =>
        intro vs W hw hd K hK
        have h1 : vs 1 = .bool false := hd 1 (by kernel_rfl)
        simp only [Nat.reduceAdd, h1] at hK ⊢
        go_simp
        exact hK.out _ _ rfl (Below.refl _ _)
      case o3 =>
        intro vs W hw hd K hK
        have h2 : vs 2 = .bool true := hd 2 (by kernel_rfl)
        simp only [Nat.reduceAdd, h2] at hK ⊢
        go_simp
        exact hK.out _ _ rfl (Below.refl _ _)
      case o4 =>
        intro vs W hw hd K hK
        have h3 : vs 3 = .bool true := hd 3 (by kernel_rfl)
        simp only [Nat.reduceAdd, h3] at hK ⊢
        go_simp
        exact hK.out _ _ trivial (Below.refl _ _)
      case o5 =>
        intro vs W hw hd K hK
        have h3 : vs 3 = .bool true := hd 3 (by kernel_rfl)
        simp only [Nat.reduceAdd, h3] at hK ⊢
        go_simp
        exact hK.out _ _ trivial (Below.refl _ _)
      case o6 =>
        intro vs W hw hd K hK
        have h3 : vs 3 = .bool true := hd 3 (by kernel_rfl)
        simp only [Nat.reduceAdd, h3] at hK ⊢
        go_simp
        exact hK.out _ _ trivial (Below.refl _ _)
      case o7 =>
        intro vs W hw hd K hK
        have h3 : vs 3 = .bool true := hd 3 (by kernel_rfl)
        simp only [Nat.reduceAdd, h3] at hK ⊢
        go_simp
        exact hK.out _ _ trivial (Below.refl _ _)
      case o8 =>
        intro vs W hw hd K hK
        have h3 : vs 3 = .bool true := hd 3 (by kernel_rfl)
        simp only [Nat.reduceAdd, h3] at hK ⊢
        go_simp
        exact hK.out _ _ trivial (Below.refl _ _)
      case o9 =>
        intro vs W hw hd K hK
        have h3 : vs 3 = .bool true := hd 3 (by kernel_rfl)
        simp only [Nat.reduceAdd, h3] at hK ⊢
        go_simp
        exact hK.out _ _ rfl (Below.refl _ _)
      case o10 =>
        intro vs W hw hd K hK
        have h9 : vs 9 = .bool true := hd 9 (by kernel_rfl)
        simp only [Nat.reduceAdd, h9] at hK ⊢
        go_simp
        exact hK.out _ _ rfl (Below.refl _ _)
      case o11 =>
        intro vs W hw hd K hK
        have h10 : vs 10 = .bool true := hd 10 (by kernel_rfl)
        simp only [Nat.reduceAdd, h10] at hK ⊢
        go_simp
        refine (c0.out W (HEn.out W hw)).mono ?_
        rintro e W' ⟨rfl, hb'⟩
        exact hK.out _ _ rfl hb'
      case o12 =>
        intro vs W hw hd K hK
        have h10 : vs 10 = .bool true := hd 10 (by kernel_rfl)
        have h11 : vs 11 = .bool true := hd 11 (by kernel_rfl)
        simp only [Nat.reduceAdd, h10, h11] at hK ⊢
        go_simp
        exact hK.out _ _ rfl (Below.refl _ _)
      case o13 =>
        intro vs W hw hd K hK
        have h12 : vs 12 = .bool true := hd 12 (by kernel_rfl)
        simp only [Nat.reduceAdd, h12] at hK ⊢
        go_simp
        exact hK.out _ _ rfl (Below.refl _ _)
    case hfin =>
      intro vs W hw hv'
      have hk : vs 13 = .bool true := hv' 13 (by decide)
      simp only [Nat.reduceAdd, hk]
      have b4 := B1.out.trans (hw.mono B1.out.size)
      clear hv' HX HEn HXc c0 cV
      go_wp2
      go_ret
      exact ⟨rfl, b4⟩
  have hsm : smallRB r = true := by
    cases h : smallRB r
    · rw [h] at hvb; cases hvb
    · rfl
  obtain ⟨hs1, hs2⟩ := smallR_le r hsm
  have c3 := Lib.hid (fun W (h : FL (.slice a r.fields.length cap) r.fields W) => pSorted_any r _ W h (by omega))
  have c4 := Lib.hid (fun W (h : FL (.slice a r.fields.length cap) r.fields W) => refSorted_any r _ W h (by omega))
  have c5 : RowKit.Hid (∀ x y W, (SP.sr r lg).p x W → (SP.sr r lg).p y W → Calls Tryz.prog 15 #[x, y] W fun e w' => e = .returned (.bool true) ∧ Below W.heap.size W w') := by
    rintro x y W ⟨v1, N1, rfl, h1, h2⟩ ⟨v2, N2, rfl, h3, h4⟩
    obtain rfl := h1.one h3
    rw [← hlg]
    exact refSame08_any { r with fields := N1 } { r with fields := N1 } _ _ W h2 h4 true ((sameRB_iff _ _).2 rfl)
  unfold RV at c3 c4
  rw [hlg, hn] at c3 c4
  clear hn hs1 hs2 hsm hvb
  go_enter Tryz.func6, Tryz.ntmps6
  go_upto_region 1 with fail
  rw [HW0.out]
  apply wp_region_inv (V := [.eq (.agg #[.int .i64 r.id, .int .i64 r.ver, .int .i64 r.kind, .string lg, .slice a n cap]), .eq (.bool true), .eq (.bool false), .eq (.bool false), .eq (.agg #[.int .i64 r.id, .int .i64 r.ver, .int .i64 r.kind, .string lg, .slice a n cap]), .sr r lg, .eq (.agg #[.int .i64 r.id, .int .i64 r.ver, .int .i64 r.kind, .string lg, .slice a n cap]), .sr r lg, .eq (.bool true), .eq (.bool true), .eq (.bool true), .eq (.bool true), .eq (.bool true), .eq (.bool true)])
  case hm => kernel_rfl
  case hd => kernel_rfl
  case hb => kernel_rfl
  case hA =>
    intro vs
    simp only [puts, Act.put, List.setIfInBounds_toArray, List.set_cons_zero, List.set_cons_succ]
    exact rfl
  case hob =>
    refine Obs.cons _ _ _ _ _ _ ?o0 (Obs.cons _ _ _ _ _ _ ?o1 (Obs.cons _ _ _ _ _ _ ?o2 (Obs.cons _ _ _ _ _ _ ?o3 (Obs.cons _ _ _ _ _ _ ?o4 (Obs.cons _ _ _ _ _ _ ?o5 (Obs.cons _ _ _ _ _ _ ?o6 (Obs.cons _ _ _ _ _ _ ?o7 (Obs.cons _ _ _ _ _ _ ?o8 (Obs.cons _ _ _ _ _ _ ?o9 (Obs.cons _ _ _ _ _ _ ?o10 (Obs.cons _ _ _ _ _ _ ?o11 (Obs.cons _ _ _ _ _ _ ?o12 (Obs.cons _ _ _ _ _ _ ?o13 (Obs.nil _ _ _ _ _ _))))))))))))))
    case o0 =>
      intro vs W hw hd K hK
      obtain ⟨k0, k1, k2, k3, k4⟩ := HXc.out W hw
      go_simp
      exact hK.out _ _ rfl (Below.refl _ _)
    case o1 =>
      intro vs W hw hd K hK
      have h0 : vs 0 = .agg #[.int .i64 r.id, .int .i64 r.ver, .int .i64 r.kind, .string lg, .slice a n cap] := hd 0 (by kernel_rfl)
      simp only [Nat.reduceAdd, h0] at hK ⊢
      go_simp
      refine (cV.out W (HX.out W hw)).mono ?_
      rintro e W' ⟨rfl, hb'⟩
      exact hK.out _ _ rfl hb'
    case o2 =>
      intro vs W hw hd K hK
      have h1 : vs 1 = .bool true := hd 1 (by kernel_rfl)
      simp only [Nat.reduceAdd, h1] at hK ⊢
      go_simp
      exact hK.out _ _ rfl (Below.refl _ _)
    case o3 =>
      intro vs W hw hd K hK
      have h2 : vs 2 = .bool false := hd 2 (by kernel_rfl)
      simp only [Nat.reduceAdd, h2] at hK ⊢
      go_simp
      exact hK.out _ _ rfl (Below.refl _ _)
    case o4 =>
      intro vs W hw hd K hK
      have h3 : vs 3 = .bool false := hd 3 (by kernel_rfl)
      obtain ⟨k0, k1, k2, k3, k4⟩ := HXc.out W hw
      simp only [Nat.reduceAdd, h3] at hK ⊢
      go_simp
      exact hK.out _ _ rfl (Below.refl _ _)
    case o5 =>
      intro vs W hw hd K hK
      have h3 : vs 3 = .bool false := hd 3 (by kernel_rfl)
      have h4 : vs 4 = .agg #[.int .i64 r.id, .int .i64 r.ver, .int .i64 r.kind, .string lg, .slice a n cap] := hd 4 (by kernel_rfl)
      simp only [Nat.reduceAdd, h3, h4] at hK ⊢
      go_simp
      refine (c3.out W (HX.out W hw)).mono ?_
      rintro e W' ⟨v', N', rfl, h1', h2', hb'⟩
      exact hK.out _ _ ⟨v', N', (by subst hlg; rfl), h1', h2'⟩ hb'
    case o6 =>
      intro vs W hw hd K hK
      have h3 : vs 3 = .bool false := hd 3 (by kernel_rfl)
      obtain ⟨k0, k1, k2, k3, k4⟩ := HXc.out W hw
      simp only [Nat.reduceAdd, h3] at hK ⊢
      go_simp
      exact hK.out _ _ rfl (Below.refl _ _)
    case o7 =>
      intro vs W hw hd K hK
      have h3 : vs 3 = .bool false := hd 3 (by kernel_rfl)
      have h6 : vs 6 = .agg #[.int .i64 r.id, .int .i64 r.ver, .int .i64 r.kind, .string lg, .slice a n cap] := hd 6 (by kernel_rfl)
      simp only [Nat.reduceAdd, h3, h6] at hK ⊢
      go_simp
      refine (c4.out W (HX.out W hw)).mono ?_
      rintro e W' ⟨v', N', rfl, h1', h2', hb'⟩
      exact hK.out _ _ ⟨v', N', (by subst hlg; rfl), h1', h2'⟩ hb'
    case o8 =>
      intro vs W hw hd K hK
      have h3 : vs 3 = .bool false := hd 3 (by kernel_rfl)
      have q5 : (SP.sr r lg).p (vs 5) W := hd 5 (by kernel_rfl)
      have q7 : (SP.sr r lg).p (vs 7) W := hd 7 (by kernel_rfl)
      simp only [Nat.reduceAdd, h3] at hK ⊢
      go_simp
      refine (c5.out _ _ _ q5 q7).mono ?_
      rintro e W' ⟨rfl, hb'⟩
      exact hK.out _ _ rfl hb'
    case o9 =>
      intro vs W hw hd K hK
      have h3 : vs 3 = .bool false := hd 3 (by kernel_rfl)
      have h8 : vs 8 = .bool true := hd 8 (by kernel_rfl)
      simp only [Nat.reduceAdd, h3, h8] at hK ⊢
      go_simp
      exact hK.out _ _ rfl (Below.refl _ _)
    case o10 =>
      intro vs W hw hd K hK
      have h9 : vs 9 = .bool true := hd 9 (by kernel_rfl)
      simp only [Nat.reduceAdd, h9] at hK ⊢
      go_simp
      exact hK.out _ _ rfl (Below.refl _ _)
    case o11 =>
      intro vs W hw hd K hK
      have h10 : vs 10 = .bool true := hd 10 (by kernel_rfl)
      simp only [Nat.reduceAdd, h10] at hK ⊢
      go_simp
      refine (c0.out W (HEn.out W hw)).mono ?_
      rintro e W' ⟨rfl, hb'⟩
      exact hK.out _ _ rfl hb'
    case o12 =>
      intro vs W hw hd K hK
      have h10 : vs 10 = .bool true := hd 10 (by kernel_rfl)
      have h11 : vs 11 = .bool true := hd 11 (by kernel_rfl)
      simp only [Nat.reduceAdd, h10, h11] at hK ⊢
      go_simp
      exact hK.out _ _ rfl (Below.refl _ _)
    case o13 =>
      intro vs W hw hd K hK
      have h12 : vs 12 = .bool true := hd 12 (by kernel_rfl)
      simp only [Nat.reduceAdd, h12] at hK ⊢
      go_simp
      exact hK.out _ _ rfl (Below.refl _ _)
  case hfin =>
    intro vs W hw hv'
    have hk : vs 13 = .bool true := hv' 13 (by decide)
    simp only [Nat.reduceAdd, hk]
    have b4 := B1.out.trans (hw.mono B1.out.size)
    clear hv' HX HEn HXc c0 cV c3 c4 c5
    go_wp2
    go_ret
    exact ⟨rfl, b4⟩
end Go.Proofs.YtcnjjdbpcobolaaGreatDoor
