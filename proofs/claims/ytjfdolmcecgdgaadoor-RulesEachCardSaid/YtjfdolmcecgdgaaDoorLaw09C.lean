/- The statement RulesUsual of layer 9 over this translation: it returns true. -/
import Derived.Test.YtjfdolmcecgdgaaDoorLaw09B
import Derived.Test.YtjfdolmcecgdgaaDoorRegInv
import Derived.Deep.DeepCutAuto
namespace Go.Proofs.YtjfdolmcecgdgaaDoor
open Go.RowKit Go.PlainAid

def SP.tl (L : List Rul) : SP := ⟨fun v w => TL v L w, fun _ _ _ h hb => h.after hb⟩
def SP.pl (L : List Prb) : SP := ⟨fun v w => PL v L w, fun _ _ _ h hb => h.after hb⟩

set_option maxHeartbeats 16000000 in
set_option maxRecDepth 100000 in
theorem lawUsual_any (r : Rec) (u : Value) (w : World) (hS : ST w) (hu : FL u r.fields w) :
    Calls Tryd.prog 7 #[RV r u] w fun e w' => e = .returned (.bool true) ∧ Below w.heap.size w w' := by
  have b0 := (Below.refl w.heap.size w).alloc (Nat.le_refl _) (.cells #[.int .i64 r.id, .int .i64 r.ver, .int .i64 r.kind, .string (S r.lang), u] 36)
  have hX := RB9.new hu
  have hS0 := hS.after b0
  have CA := Lib.hid alive_any
  have CR := Lib.hid refStandard_any
  have C0 := Lib.hid uStandard_any
  have hBd := Classical.em (Bnd stdL r.fields)
  have CSi := Lib.hid (fun v W (h : TL v stdL W) (h2 : FL u r.fields W) => refSmall9_iff stdL v r u W h h2)
  have CKi := Lib.hid (fun (hb : Bnd stdL r.fields) v W (h : TL v stdL W) (h2 : FL u r.fields W) => refCheck_any stdL v r u W h h2 hb)
  have CUi := Lib.hid (fun (hb : Bnd stdL r.fields) v W (h : TL v stdL W) (h2 : FL u r.fields W) => uCheck_any stdL v r u W h h2 hb.fits)
  obtain ⟨P, hP⟩ : ∃ P, checkL stdL r.fields = P := ⟨_, rfl⟩
  rw [hP] at CKi CUi
  have CSP := Lib.hid (fun x y W hx hy => refSameP_any P P x y W hx hy true ⟨fun _ => rfl, fun _ => rfl⟩)
  obtain ⟨au, cu, rfl, _, _⟩ := hu.length
  unfold RV at CSi CKi CUi ⊢
  obtain ⟨W0, hW0⟩ : ∃ W0, w.alloc (.cells #[.int .i64 r.id, .int .i64 r.ver, .int .i64 r.kind, .string (S r.lang), .slice au r.fields.length cu] 36) = W0 := ⟨_, rfl⟩
  rw [hW0] at b0 hX hS0
  have HW0 := Lib.hid hW0
  have HCl := Lib.hid (fun W (h : RB9 w.heap.size r (.slice au r.fields.length cu) W) => h.cells)
  clear hW0 hP hu hS
  generalize hvi : r.id = vi at *
  generalize hvv : r.ver = vv at *
  generalize hvk : r.kind = vk at *
  generalize hvl : S r.lang = vl at *
  generalize hvn : r.fields.length = n at *
  clear hvi hvv hvk hvl hvn
  go_enter Tryd.func7, Tryd.ntmps7
  go_wp2_with fail
  rw [HW0.out]
  clear HW0
  refine (CA.out W0 hS0).mono ?_
  rintro e w1 ⟨rfl, c⟩
  have b1 := b0.trans (c.mono b0.size)
  have hX1 := hX.after c
  have hS1 := hS0.after c
  clear b0 c hX hS0 CA
  go_wp2_with fail
  refine (CR.out w1).mono ?_
  rintro e w2 ⟨v, rfl, hT, c⟩
  have b2 := b1.trans (c.mono b1.size)
  have hX2 := hX1.after c
  have hS2 := hS1.after c
  obtain ⟨a, cp, rfl, _, _⟩ := hT.length
  rw [show stdL.length = 25 from rfl] at hT ⊢
  clear b1 c hX1 hS1 CR
  have HT := Lib.hid (fun W (h : Below w2.heap.size w2 W) => hT.after h)
  have HX := Lib.hid (fun W (h : Below w2.heap.size w2 W) => (hX2.after h).q)
  have HXc := Lib.hid (fun W (h : Below w2.heap.size w2 W) => HCl.out _ (hX2.after h))
  have HS := Lib.hid (fun W (h : Below w2.heap.size w2 W) => hS2.after h)
  have B2 := Lib.hid b2
  clear hT hX2 hS2 b2 HCl
  rcases hBd with hB | hB
  · have CK := Lib.hid (CKi.out hB (.slice a 25 cp))
    have CU := Lib.hid (CUi.out hB)
    have CSm : RowKit.Hid (∀ W (h : TL (.slice a 25 cp) stdL W) (h2 : FL (.slice au n cu) r.fields W), Calls Tryd.prog 17 #[.slice a 25 cp, .agg #[.int .i64 vi, .int .i64 vv, .int .i64 vk, .string vl, .slice au n cu]] W fun e w' => e = .returned (.bool true) ∧ Below W.heap.size W w') := fun W h h2 => by
      refine (CSi.out _ W h h2).mono ?_
      rintro e w' ⟨b, h1, h2, h3⟩
      rw [h2.2 hB] at h1
      exact ⟨h1, h3⟩
    clear CKi CUi CSi hB
    go_upto_region 4 with fail
    apply wp_region_inv (V := [.eq (.slice a 25 cp), .eq (.agg #[.int .i64 vi, .int .i64 vv, .int .i64 vk, .string vl, .slice au n cu]), .eq (.bool true), .eq (.bool false), .eq (.bool false), .tl stdL, .eq (.agg #[.int .i64 vi, .int .i64 vv, .int .i64 vk, .string vl, .slice au n cu]), .pl P, .eq (.slice a 25 cp), .eq (.agg #[.int .i64 vi, .int .i64 vv, .int .i64 vk, .string vl, .slice au n cu]), .pl P, .eq (.bool true), .eq (.bool true), .eq (.bool true)])
    case hm => kernel_rfl
    case hd => kernel_rfl
    case hb => kernel_rfl
    case hA =>
      intro vs
      simp only [puts, Act.put, List.setIfInBounds_toArray, List.set_cons_zero, List.set_cons_succ]
      exact rfl
    case hob =>
      refine Obs.cons _ _ _ _ _ _ ?o0 (Obs.cons _ _ _ _ _ _ ?o1 (Obs.cons _ _ _ _ _ _ ?o2 (Obs.cons _ _ _ _ _ _ ?o3 (Obs.cons _ _ _ _ _ _ ?o4 (Obs.cons _ _ _ _ _ _ ?o5 (Obs.cons _ _ _ _ _ _ ?o6 (Obs.cons _ _ _ _ _ _ ?o7 (Obs.cons _ _ _ _ _ _ ?o8 (Obs.cons _ _ _ _ _ _ ?o9 (Obs.cons _ _ _ _ _ _ ?o10 (Obs.cons _ _ _ _ _ _ ?o11 (Obs.cons _ _ _ _ _ _ ?o12 (Obs.cons _ _ _ _ _ _ ?o13 (Obs.nil _ _ _ _ _ _))))))))))))))
      case o0 =>
        intro vs W hw hd K hK
        go_simp
        exact hK.out _ _ rfl (Below.refl _ _)
      case o1 =>
        intro vs W hw hd K hK
        obtain ⟨k0, k1, k2, k3, k4⟩ := HXc.out W hw
        go_simp
        exact hK.out _ _ rfl (Below.refl _ _)
      case o2 =>
        intro vs W hw hd K hK
        have h0 : vs 0 = .slice a 25 cp := hd 0 (by kernel_rfl)
        have h1 : vs 1 = .agg #[.int .i64 vi, .int .i64 vv, .int .i64 vk, .string vl, .slice au n cu] := hd 1 (by kernel_rfl)
        simp only [Nat.reduceAdd, h0, h1] at hK ⊢
        go_simp
        refine (CSm.out W (HT.out W hw) (HX.out W hw)).mono ?_
        rintro e W' ⟨rfl, hb'⟩
        exact hK.out _ _ rfl hb'
      case o3 =>
        intro vs W hw hd K hK
        have h2 : vs 2 = .bool true := hd 2 (by kernel_rfl)
        simp only [Nat.reduceAdd, h2] at hK ⊢
        go_simp
        exact hK.out _ _ rfl (Below.refl _ _)
      case o4 =>
        intro vs W hw hd K hK
        have h3 : vs 3 = .bool false := hd 3 (by kernel_rfl)
        simp only [Nat.reduceAdd, h3] at hK ⊢
        go_simp
        exact hK.out _ _ rfl (Below.refl _ _)
      case o5 =>
        intro vs W hw hd K hK
        have h4 : vs 4 = .bool false := hd 4 (by kernel_rfl)
        simp only [Nat.reduceAdd, h4] at hK ⊢
        go_simp
        refine (C0.out W (HS.out W hw)).mono ?_
        rintro e W' ⟨v', rfl, hT', hb'⟩
        exact hK.out _ _ hT' hb'
      case o6 =>
        intro vs W hw hd K hK
        have h4 : vs 4 = .bool false := hd 4 (by kernel_rfl)
        obtain ⟨k0, k1, k2, k3, k4⟩ := HXc.out W hw
        simp only [Nat.reduceAdd, h4] at hK ⊢
        go_simp
        exact hK.out _ _ rfl (Below.refl _ _)
      case o7 =>
        intro vs W hw hd K hK
        have h4 : vs 4 = .bool false := hd 4 (by kernel_rfl)
        have h6 : vs 6 = .agg #[.int .i64 vi, .int .i64 vv, .int .i64 vk, .string vl, .slice au n cu] := hd 6 (by kernel_rfl)
        have q5 : TL (vs 5) stdL W := hd 5 (by kernel_rfl)
        simp only [Nat.reduceAdd, h4, h6] at hK ⊢
        go_simp
        refine (CU.out _ W q5 (HX.out W hw)).mono ?_
        rintro e W' ⟨v', rfl, hP', hb'⟩
        exact hK.out _ _ hP' hb'
      case o8 =>
        intro vs W hw hd K hK
        have h4 : vs 4 = .bool false := hd 4 (by kernel_rfl)
        simp only [Nat.reduceAdd, h4] at hK ⊢
        go_simp
        exact hK.out _ _ rfl (Below.refl _ _)
      case o9 =>
        intro vs W hw hd K hK
        have h4 : vs 4 = .bool false := hd 4 (by kernel_rfl)
        obtain ⟨k0, k1, k2, k3, k4⟩ := HXc.out W hw
        simp only [Nat.reduceAdd, h4] at hK ⊢
        go_simp
        exact hK.out _ _ rfl (Below.refl _ _)
      case o10 =>
        intro vs W hw hd K hK
        have h4 : vs 4 = .bool false := hd 4 (by kernel_rfl)
        have h8 : vs 8 = .slice a 25 cp := hd 8 (by kernel_rfl)
        have h9 : vs 9 = .agg #[.int .i64 vi, .int .i64 vv, .int .i64 vk, .string vl, .slice au n cu] := hd 9 (by kernel_rfl)
        simp only [Nat.reduceAdd, h4, h8, h9] at hK ⊢
        go_simp
        refine (CK.out W (HT.out W hw) (HX.out W hw)).mono ?_
        rintro e W' ⟨v', rfl, hP', hb'⟩
        exact hK.out _ _ hP' hb'
      case o11 =>
        intro vs W hw hd K hK
        have h4 : vs 4 = .bool false := hd 4 (by kernel_rfl)
        have q7 : PL (vs 7) P W := hd 7 (by kernel_rfl)
        have q10 : PL (vs 10) P W := hd 10 (by kernel_rfl)
        simp only [Nat.reduceAdd, h4] at hK ⊢
        go_simp
        refine (CSP.out _ _ W q7 q10).mono ?_
        rintro e W' ⟨rfl, hb'⟩
        exact hK.out _ _ rfl hb'
      case o12 =>
        intro vs W hw hd K hK
        have h4 : vs 4 = .bool false := hd 4 (by kernel_rfl)
        have h11 : vs 11 = .bool true := hd 11 (by kernel_rfl)
        simp only [Nat.reduceAdd, h4, h11] at hK ⊢
        go_simp
        exact hK.out _ _ rfl (Below.refl _ _)
      case o13 =>
        intro vs W hw hd K hK
        have h12 : vs 12 = .bool true := hd 12 (by kernel_rfl)
        simp only [Nat.reduceAdd, h12] at hK ⊢
        go_simp
        exact hK.out _ _ rfl (Below.refl _ _)
    case hfin =>
      intro vs W hw hv'
      have hk : vs 13 = .bool true := hv' 13 (by decide)
      simp only [Nat.reduceAdd, hk]
      have b4 := B2.out.trans (hw.mono B2.out.size)
      clear hv' HT HX HXc HS
      go_wp2
      go_ret
      exact ⟨rfl, b4⟩
  · have CSm : RowKit.Hid (∀ W (h : TL (.slice a 25 cp) stdL W) (h2 : FL (.slice au n cu) r.fields W), Calls Tryd.prog 17 #[.slice a 25 cp, .agg #[.int .i64 vi, .int .i64 vv, .int .i64 vk, .string vl, .slice au n cu]] W fun e w' => e = .returned (.bool false) ∧ Below W.heap.size W w') := fun W h h2 => by
      refine (CSi.out _ W h h2).mono ?_
      rintro e w' ⟨b, h1, h2, h3⟩
      cases b
      · exact ⟨h1, h3⟩
      · exact absurd (h2.1 rfl) hB
    clear CKi CUi CSi hB
    go_upto_region 4 with fail
    apply wp_region_inv (V := [.eq (.slice a 25 cp), .eq (.agg #[.int .i64 vi, .int .i64 vv, .int .i64 vk, .string vl, .slice au n cu]), .eq (.bool false), .eq (.bool true), .eq (.bool true), .any, .any, .any, .any, .any, .any, .any, .eq (.bool true), .eq (.bool true)])
    case hm => kernel_rfl
    case hd => kernel_rfl
    case hb => kernel_rfl
    case hA =>
      intro vs
      simp only [puts, Act.put, List.setIfInBounds_toArray, List.set_cons_zero, List.set_cons_succ]
      exact rfl
    case hob =>
      refine Obs.cons _ _ _ _ _ _ ?o0 (Obs.cons _ _ _ _ _ _ ?o1 (Obs.cons _ _ _ _ _ _ ?o2 (Obs.cons _ _ _ _ _ _ ?o3 (Obs.cons _ _ _ _ _ _ ?o4 (Obs.cons _ _ _ _ _ _ ?o5 (Obs.cons _ _ _ _ _ _ ?o6 (Obs.cons _ _ _ _ _ _ ?o7 (Obs.cons _ _ _ _ _ _ ?o8 (Obs.cons _ _ _ _ _ _ ?o9 (Obs.cons _ _ _ _ _ _ ?o10 (Obs.cons _ _ _ _ _ _ ?o11 (Obs.cons _ _ _ _ _ _ ?o12 (Obs.cons _ _ _ _ _ _ ?o13 (Obs.nil _ _ _ _ _ _))))))))))))))
      case o0 =>
        intro vs W hw hd K hK
        go_simp
        exact hK.out _ _ rfl (Below.refl _ _)
      case o1 =>
        intro vs W hw hd K hK
        obtain ⟨k0, k1, k2, k3, k4⟩ := HXc.out W hw
        go_simp
        exact hK.out _ _ rfl (Below.refl _ _)
      case o2 =>
        intro vs W hw hd K hK
        have h0 : vs 0 = .slice a 25 cp := hd 0 (by kernel_rfl)
        have h1 : vs 1 = .agg #[.int .i64 vi, .int .i64 vv, .int .i64 vk, .string vl, .slice au n cu] := hd 1 (by kernel_rfl)
        simp only [Nat.reduceAdd, h0, h1] at hK ⊢
        go_simp
        refine (CSm.out W (HT.out W hw) (HX.out W hw)).mono ?_
        rintro e W' ⟨rfl, hb'⟩
        exact hK.out _ _ rfl hb'
      case o3 =>
        intro vs W hw hd K hK
        have h2 : vs 2 = .bool false := hd 2 (by kernel_rfl)
        simp only [Nat.reduceAdd, h2] at hK ⊢
        go_simp
        exact hK.out _ _ rfl (Below.refl _ _)
      case o4 =>
        intro vs W hw hd K hK
        have h3 : vs 3 = .bool true := hd 3 (by kernel_rfl)
        simp only [Nat.reduceAdd, h3] at hK ⊢
        go_simp
        exact hK.out _ _ rfl (Below.refl _ _)
      case o5 =>
        intro vs W hw hd K hK
        have h4 : vs 4 = .bool true := hd 4 (by kernel_rfl)
        simp only [Nat.reduceAdd, h4] at hK ⊢
        go_simp
        exact hK.out _ _ trivial (Below.refl _ _)
      case o6 =>
        intro vs W hw hd K hK
        have h4 : vs 4 = .bool true := hd 4 (by kernel_rfl)
        simp only [Nat.reduceAdd, h4] at hK ⊢
        go_simp
        exact hK.out _ _ trivial (Below.refl _ _)
      case o7 =>
        intro vs W hw hd K hK
        have h4 : vs 4 = .bool true := hd 4 (by kernel_rfl)
        simp only [Nat.reduceAdd, h4] at hK ⊢
        go_simp
        exact hK.out _ _ trivial (Below.refl _ _)
      case o8 =>
        intro vs W hw hd K hK
        have h4 : vs 4 = .bool true := hd 4 (by kernel_rfl)
        simp only [Nat.reduceAdd, h4] at hK ⊢
        go_simp
        exact hK.out _ _ trivial (Below.refl _ _)
      case o9 =>
        intro vs W hw hd K hK
        have h4 : vs 4 = .bool true := hd 4 (by kernel_rfl)
        simp only [Nat.reduceAdd, h4] at hK ⊢
        go_simp
        exact hK.out _ _ trivial (Below.refl _ _)
      case o10 =>
        intro vs W hw hd K hK
        have h4 : vs 4 = .bool true := hd 4 (by kernel_rfl)
        simp only [Nat.reduceAdd, h4] at hK ⊢
        go_simp
        exact hK.out _ _ trivial (Below.refl _ _)
      case o11 =>
        intro vs W hw hd K hK
        have h4 : vs 4 = .bool true := hd 4 (by kernel_rfl)
        simp only [Nat.reduceAdd, h4] at hK ⊢
        go_simp
        exact hK.out _ _ trivial (Below.refl _ _)
      case o12 =>
        intro vs W hw hd K hK
        have h4 : vs 4 = .bool true := hd 4 (by kernel_rfl)
        simp only [Nat.reduceAdd, h4] at hK ⊢
        go_simp
        exact hK.out _ _ rfl (Below.refl _ _)
      case o13 =>
        intro vs W hw hd K hK
        have h12 : vs 12 = .bool true := hd 12 (by kernel_rfl)
        simp only [Nat.reduceAdd, h12] at hK ⊢
        go_simp
        exact hK.out _ _ rfl (Below.refl _ _)
    case hfin =>
      intro vs W hw hv'
      have hk : vs 13 = .bool true := hv' 13 (by decide)
      simp only [Nat.reduceAdd, hk]
      have b4 := B2.out.trans (hw.mono B2.out.size)
      clear hv' HT HX HXc HS
      go_wp2
      go_ret
      exact ⟨rfl, b4⟩

end Go.Proofs.YtjfdolmcecgdgaaDoor
