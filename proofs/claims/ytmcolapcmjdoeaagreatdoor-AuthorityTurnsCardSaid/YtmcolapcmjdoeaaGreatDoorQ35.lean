/- Merged: R13I, LB13, QS13. -/
import Derived.Test.YtmcolapcmjdoeaaGreatDoorQ34
import Derived.Test.YtmcolapcmjdoeaaGreatDoorQ26
import Derived.Deep.RegionLaw
namespace Go.Proofs.YtmcolapcmjdoeaaGreatDoor

section
open Go.RowKit Go.PlainAid
set_option maxHeartbeats 16000000 in
set_option maxRecDepth 100000 in
theorem refSame13_eq (L : List Au) (u v : Value) (w : World) (hu : AL u L w) (hv : AL v L w) (hz : L.length ≤ 1000000) (hm : ∀ a ∈ L, a.above.length ≤ 1000000) :
    Calls Tryz.prog 14 #[u, v] w fun e w' => e = .returned (.bool true) ∧ Below w.heap.size w w' := by
  have HU := Lib.hid hu
  have HV := Lib.hid hv
  have HM := Lib.hid hm
  obtain ⟨ua, uc, rfl, -, -⟩ := hu.length
  obtain ⟨va, vc, rfl, -, -⟩ := hv.length
  obtain ⟨n, hn⟩ : ∃ n, L.length = n := ⟨_, rfl⟩
  have HN := Lib.hid hn
  rw [hn] at HU HV hz ⊢
  clear hu hv hn hm
  go_enter Tryz.func14, Tryz.ntmps14
  go_wp2
  go_loopw [5] (fun i wr => ∃ k : Nat, i = .int .i64 (k : Int) ∧ k ≤ n ∧ RowKit.Hid (Below w.heap.size w wr)) (fun i _ => n - (intOf i).toNat)
  case atStart => exact ⟨0, rfl, Nat.zero_le _, Below.refl _ _⟩
  case round =>
    obtain ⟨k, rfl, hk, HB⟩ := hrel
    by_cases hkn : k < n
    · have i1 : (0 : Int) ≤ (k : Int) := by omega
      have i2 : (k : Int) < (n : Int) := by omega
      obtain ⟨g1, o1, c1, s1, t1, he1, hg1, hrd1⟩ := HU.out.read k (by rw [HN.out]; exact hkn)
      obtain ⟨rfl, -, hcp1⟩ := Value.slice.inj he1
      subst hcp1
      obtain ⟨g2, o2, c2, s2, t2, he2, hg2, hrd2⟩ := HV.out.read k (by rw [HN.out]; exact hkn)
      obtain ⟨rfl, -, hcp2⟩ := Value.slice.inj he2
      subst hcp2
      have ham := HM.out _ (mem_getDA L k (by rw [HN.out]; exact hkn))
      obtain ⟨a, ha⟩ : ∃ a, L.getD k au0 = a := ⟨_, rfl⟩
      rw [ha] at hrd1 hrd2 ham
      obtain ⟨-, -, -, -, -, hq1⟩ := hrd1 wr HB.out
      obtain ⟨-, -, -, -, -, hq2⟩ := hrd2 wr HB.out
      obtain ⟨sa1, sc1, hs1, -, -⟩ := hq1.1.length
      obtain ⟨sa2, sc2, hs2, -, -⟩ := hq2.1.length
      obtain ⟨ta1, tc1, ht1, -⟩ := hq1.2.length
      obtain ⟨ta2, tc2, ht2, -⟩ := hq2.2.length
      obtain ⟨sn, hsn⟩ : ∃ n, a.see.length = n := ⟨_, rfl⟩
      obtain ⟨tn, htn⟩ : ∃ n, a.above.length = n := ⟨_, rfl⟩
      rw [hsn] at hs1 hs2
      rw [htn] at ht1 ht2
      subst hs1 hs2 ht1 ht2
      have cT := Lib.hid (fun (W : World) (hW : Below wr.heap.size wr W) => refTexts_any a.see a.see _ _ W (hq1.1.after hW) (hq2.1.after hW) true (decide_eq_true rfl))
      have cI := Lib.hid (fun (W : World) (hW : Below wr.heap.size wr W) => refInts_any _ _ a.above a.above W (hq1.2.after hW) (hq2.2.after hW) ham ham true (decide_eq_true rfl))
      obtain ⟨fi, hfi⟩ : ∃ x, a.id = x := ⟨_, rfl⟩
      obtain ⟨fk, hfk⟩ : ∃ x, a.kind = x := ⟨_, rfl⟩
      obtain ⟨fh, hfh⟩ : ∃ x, S a.heading = x := ⟨_, rfl⟩
      rw [hfi, hfk, hfh] at hrd1 hrd2
      have HC1 : RowKit.Hid (∀ W, Below wr.heap.size wr W → W.cell? ⟨g1, o1 + k * 5, none⟩ = some (.int .i64 fi) ∧ W.cell? ⟨g1, o1 + k * 5 + 1, none⟩ = some (.int .i64 fk) ∧ W.cell? ⟨g1, o1 + k * 5 + 2, none⟩ = some (.string fh) ∧ W.cell? ⟨g1, o1 + k * 5 + 3, none⟩ = some (.slice sa1 sn sc1) ∧ W.cell? ⟨g1, o1 + k * 5 + 4, none⟩ = some (.slice ta1 tn tc1)) := by
        intro W hW
        obtain ⟨x0, x1, x2, x3, x4, -⟩ := hrd1 W (HB.out.trans (hW.mono HB.out.size))
        exact ⟨x0, x1, x2, x3, x4⟩
      have HC2 : RowKit.Hid (∀ W, Below wr.heap.size wr W → W.cell? ⟨g2, o2 + k * 5, none⟩ = some (.int .i64 fi) ∧ W.cell? ⟨g2, o2 + k * 5 + 1, none⟩ = some (.int .i64 fk) ∧ W.cell? ⟨g2, o2 + k * 5 + 2, none⟩ = some (.string fh) ∧ W.cell? ⟨g2, o2 + k * 5 + 3, none⟩ = some (.slice sa2 sn sc2) ∧ W.cell? ⟨g2, o2 + k * 5 + 4, none⟩ = some (.slice ta2 tn tc2)) := by
        intro W hW
        obtain ⟨x0, x1, x2, x3, x4, -⟩ := hrd2 W (HB.out.trans (hW.mono HB.out.size))
        exact ⟨x0, x1, x2, x3, x4⟩
      clear he1 he2 hrd1 hrd2 ham ha hq1 hq2 hsn htn hfi hfk hfh
      go_upto_region 6 with fail
      go_cut [81] from 17 to 81 (fun r wx => r = .bool false ∧ Below wr.heap.size wr wx)
      case first =>
          simp only [List.append_eq, List.cons_append, List.nil_append]
          apply wp_region_inv (V := [.eq (.slice (some ⟨g1, o1, none⟩) n uc), .eq (.int .i64 (k : Int)), .eq (.pointer (some ⟨g1, o1 + k * 5, none⟩)), .eq (.pointer (some ⟨g1, o1 + k * 5, none⟩)), .eq (.int .i64 fi), .eq (.slice (some ⟨g2, o2, none⟩) n vc), .eq (.int .i64 (k : Int)), .eq (.pointer (some ⟨g2, o2 + k * 5, none⟩)), .eq (.pointer (some ⟨g2, o2 + k * 5, none⟩)), .eq (.int .i64 fi), .eq (.bool false), .eq (.bool false), .eq (.slice (some ⟨g1, o1, none⟩) n uc), .eq (.int .i64 (k : Int)), .eq (.pointer (some ⟨g1, o1 + k * 5, none⟩)), .eq (.pointer (some ⟨g1, o1 + k * 5 + 1, none⟩)), .eq (.int .i64 fk), .eq (.slice (some ⟨g2, o2, none⟩) n vc), .eq (.int .i64 (k : Int)), .eq (.pointer (some ⟨g2, o2 + k * 5, none⟩)), .eq (.pointer (some ⟨g2, o2 + k * 5 + 1, none⟩)), .eq (.int .i64 fk), .eq (.bool false), .eq (.bool false), .eq (.bool false), .eq (.slice (some ⟨g1, o1, none⟩) n uc), .eq (.int .i64 (k : Int)), .eq (.pointer (some ⟨g1, o1 + k * 5, none⟩)), .eq (.pointer (some ⟨g1, o1 + k * 5 + 2, none⟩)), .eq (.string fh), .eq (.slice (some ⟨g2, o2, none⟩) n vc), .eq (.int .i64 (k : Int)), .eq (.pointer (some ⟨g2, o2 + k * 5, none⟩)), .eq (.pointer (some ⟨g2, o2 + k * 5 + 2, none⟩)), .eq (.string fh), .eq (.bool false), .eq (.bool false), .eq (.bool false), .eq (.slice (some ⟨g1, o1, none⟩) n uc), .eq (.int .i64 (k : Int)), .eq (.pointer (some ⟨g1, o1 + k * 5, none⟩)), .eq (.pointer (some ⟨g1, o1 + k * 5 + 3, none⟩)), .eq (.slice sa1 sn sc1), .eq (.slice (some ⟨g2, o2, none⟩) n vc), .eq (.int .i64 (k : Int)), .eq (.pointer (some ⟨g2, o2 + k * 5, none⟩)), .eq (.pointer (some ⟨g2, o2 + k * 5 + 3, none⟩)), .eq (.slice sa2 sn sc2), .eq (.bool true), .eq (.bool false), .eq (.bool false), .eq (.bool false), .eq (.slice (some ⟨g1, o1, none⟩) n uc), .eq (.int .i64 (k : Int)), .eq (.pointer (some ⟨g1, o1 + k * 5, none⟩)), .eq (.pointer (some ⟨g1, o1 + k * 5 + 4, none⟩)), .eq (.slice ta1 tn tc1), .eq (.slice (some ⟨g2, o2, none⟩) n vc), .eq (.int .i64 (k : Int)), .eq (.pointer (some ⟨g2, o2 + k * 5, none⟩)), .eq (.pointer (some ⟨g2, o2 + k * 5 + 4, none⟩)), .eq (.slice ta2 tn tc2), .eq (.bool true), .eq (.bool false), .eq (.bool false)])
          case hm => kernel_rfl
          case hd => kernel_rfl
          case hb => kernel_rfl
          case hA =>
            intro vs
            simp only [puts, Act.put, List.setIfInBounds_toArray, List.set_cons_zero, List.set_cons_succ]
            exact rfl
          case hob =>
            refine Obs.cons _ _ _ _ _ _ ?o0 (Obs.cons _ _ _ _ _ _ ?o1 (Obs.cons _ _ _ _ _ _ ?o2 (Obs.cons _ _ _ _ _ _ ?o3 (Obs.cons _ _ _ _ _ _ ?o4 (Obs.cons _ _ _ _ _ _ ?o5 (Obs.cons _ _ _ _ _ _ ?o6 (Obs.cons _ _ _ _ _ _ ?o7 (Obs.cons _ _ _ _ _ _ ?o8 (Obs.cons _ _ _ _ _ _ ?o9 (Obs.cons _ _ _ _ _ _ ?o10 (Obs.cons _ _ _ _ _ _ ?o11 (Obs.cons _ _ _ _ _ _ ?o12 (Obs.cons _ _ _ _ _ _ ?o13 (Obs.cons _ _ _ _ _ _ ?o14 (Obs.cons _ _ _ _ _ _ ?o15 (Obs.cons _ _ _ _ _ _ ?o16 (Obs.cons _ _ _ _ _ _ ?o17 (Obs.cons _ _ _ _ _ _ ?o18 (Obs.cons _ _ _ _ _ _ ?o19 (Obs.cons _ _ _ _ _ _ ?o20 (Obs.cons _ _ _ _ _ _ ?o21 (Obs.cons _ _ _ _ _ _ ?o22 (Obs.cons _ _ _ _ _ _ ?o23 (Obs.cons _ _ _ _ _ _ ?o24 (Obs.cons _ _ _ _ _ _ ?o25 (Obs.cons _ _ _ _ _ _ ?o26 (Obs.cons _ _ _ _ _ _ ?o27 (Obs.cons _ _ _ _ _ _ ?o28 (Obs.cons _ _ _ _ _ _ ?o29 (Obs.cons _ _ _ _ _ _ ?o30 (Obs.cons _ _ _ _ _ _ ?o31 (Obs.cons _ _ _ _ _ _ ?o32 (Obs.cons _ _ _ _ _ _ ?o33 (Obs.cons _ _ _ _ _ _ ?o34 (Obs.cons _ _ _ _ _ _ ?o35 (Obs.cons _ _ _ _ _ _ ?o36 (Obs.cons _ _ _ _ _ _ ?o37 (Obs.cons _ _ _ _ _ _ ?o38 (Obs.cons _ _ _ _ _ _ ?o39 (Obs.cons _ _ _ _ _ _ ?o40 (Obs.cons _ _ _ _ _ _ ?o41 (Obs.cons _ _ _ _ _ _ ?o42 (Obs.cons _ _ _ _ _ _ ?o43 (Obs.cons _ _ _ _ _ _ ?o44 (Obs.cons _ _ _ _ _ _ ?o45 (Obs.cons _ _ _ _ _ _ ?o46 (Obs.cons _ _ _ _ _ _ ?o47 (Obs.cons _ _ _ _ _ _ ?o48 (Obs.cons _ _ _ _ _ _ ?o49 (Obs.cons _ _ _ _ _ _ ?o50 (Obs.cons _ _ _ _ _ _ ?o51 (Obs.cons _ _ _ _ _ _ ?o52 (Obs.cons _ _ _ _ _ _ ?o53 (Obs.cons _ _ _ _ _ _ ?o54 (Obs.cons _ _ _ _ _ _ ?o55 (Obs.cons _ _ _ _ _ _ ?o56 (Obs.cons _ _ _ _ _ _ ?o57 (Obs.cons _ _ _ _ _ _ ?o58 (Obs.cons _ _ _ _ _ _ ?o59 (Obs.cons _ _ _ _ _ _ ?o60 (Obs.cons _ _ _ _ _ _ ?o61 (Obs.cons _ _ _ _ _ _ ?o62 (Obs.cons _ _ _ _ _ _ ?o63 (Obs.cons _ _ _ _ _ _ ?o64 (Obs.nil _ _ _ _ _ _)))))))))))))))))))))))))))))))))))))))))))))))))))))))))))))))))
            case o0 =>
              intro vs W hw hd K hK
              go_simp
              exact hK.out _ _ rfl (Below.refl _ _)
            case o1 =>
              intro vs W hw hd K hK
              go_simp
              exact hK.out _ _ rfl (Below.refl _ _)
            case o2 =>
              intro vs W hw hd K hK
              have h0 : vs 0 = .slice (some ⟨g1, o1, none⟩) n uc := hd 0 (by kernel_rfl)
              have h1 : vs 1 = .int .i64 (k : Int) := hd 1 (by kernel_rfl)
              simp only [Nat.reduceAdd, h0, h1] at hK ⊢
              go_simp
              exact hK.out _ _ rfl (Below.refl _ _)
            case o3 =>
              intro vs W hw hd K hK
              have h2 : vs 2 = .pointer (some ⟨g1, o1 + k * 5, none⟩) := hd 2 (by kernel_rfl)
              simp only [Nat.reduceAdd, h2] at hK ⊢
              go_simp
              exact hK.out _ _ rfl (Below.refl _ _)
            case o4 =>
              intro vs W hw hd K hK
              have h3 : vs 3 = .pointer (some ⟨g1, o1 + k * 5, none⟩) := hd 3 (by kernel_rfl)
              obtain ⟨c0, c1, c2, c3, c4⟩ := HC1.out W hw
              simp only [Nat.reduceAdd, h3] at hK ⊢
              go_simp
              exact hK.out _ _ rfl (Below.refl _ _)
            case o5 =>
              intro vs W hw hd K hK
              go_simp
              exact hK.out _ _ rfl (Below.refl _ _)
            case o6 =>
              intro vs W hw hd K hK
              go_simp
              exact hK.out _ _ rfl (Below.refl _ _)
            case o7 =>
              intro vs W hw hd K hK
              have h5 : vs 5 = .slice (some ⟨g2, o2, none⟩) n vc := hd 5 (by kernel_rfl)
              have h6 : vs 6 = .int .i64 (k : Int) := hd 6 (by kernel_rfl)
              simp only [Nat.reduceAdd, h5, h6] at hK ⊢
              go_simp
              exact hK.out _ _ rfl (Below.refl _ _)
            case o8 =>
              intro vs W hw hd K hK
              have h7 : vs 7 = .pointer (some ⟨g2, o2 + k * 5, none⟩) := hd 7 (by kernel_rfl)
              simp only [Nat.reduceAdd, h7] at hK ⊢
              go_simp
              exact hK.out _ _ rfl (Below.refl _ _)
            case o9 =>
              intro vs W hw hd K hK
              have h8 : vs 8 = .pointer (some ⟨g2, o2 + k * 5, none⟩) := hd 8 (by kernel_rfl)
              obtain ⟨c0, c1, c2, c3, c4⟩ := HC2.out W hw
              simp only [Nat.reduceAdd, h8] at hK ⊢
              go_simp
              exact hK.out _ _ rfl (Below.refl _ _)
            case o10 =>
              intro vs W hw hd K hK
              have h4 : vs 4 = .int .i64 fi := hd 4 (by kernel_rfl)
              have h9 : vs 9 = .int .i64 fi := hd 9 (by kernel_rfl)
              simp only [Nat.reduceAdd, h4, h9] at hK ⊢
              go_simp
              exact hK.out _ _ rfl (Below.refl _ _)
            case o11 =>
              intro vs W hw hd K hK
              have h10 : vs 10 = .bool false := hd 10 (by kernel_rfl)
              simp only [Nat.reduceAdd, h10] at hK ⊢
              go_simp
              exact hK.out _ _ rfl (Below.refl _ _)
            case o12 =>
              intro vs W hw hd K hK
              have h11 : vs 11 = .bool false := hd 11 (by kernel_rfl)
              simp only [Nat.reduceAdd, h11] at hK ⊢
              go_simp
              exact hK.out _ _ rfl (Below.refl _ _)
            case o13 =>
              intro vs W hw hd K hK
              have h11 : vs 11 = .bool false := hd 11 (by kernel_rfl)
              simp only [Nat.reduceAdd, h11] at hK ⊢
              go_simp
              exact hK.out _ _ rfl (Below.refl _ _)
            case o14 =>
              intro vs W hw hd K hK
              have h11 : vs 11 = .bool false := hd 11 (by kernel_rfl)
              have h12 : vs 12 = .slice (some ⟨g1, o1, none⟩) n uc := hd 12 (by kernel_rfl)
              have h13 : vs 13 = .int .i64 (k : Int) := hd 13 (by kernel_rfl)
              simp only [Nat.reduceAdd, h11, h12, h13] at hK ⊢
              go_simp
              exact hK.out _ _ rfl (Below.refl _ _)
            case o15 =>
              intro vs W hw hd K hK
              have h11 : vs 11 = .bool false := hd 11 (by kernel_rfl)
              have h14 : vs 14 = .pointer (some ⟨g1, o1 + k * 5, none⟩) := hd 14 (by kernel_rfl)
              simp only [Nat.reduceAdd, h11, h14] at hK ⊢
              go_simp
              exact hK.out _ _ rfl (Below.refl _ _)
            case o16 =>
              intro vs W hw hd K hK
              have h11 : vs 11 = .bool false := hd 11 (by kernel_rfl)
              have h15 : vs 15 = .pointer (some ⟨g1, o1 + k * 5 + 1, none⟩) := hd 15 (by kernel_rfl)
              obtain ⟨c0, c1, c2, c3, c4⟩ := HC1.out W hw
              simp only [Nat.reduceAdd, h11, h15] at hK ⊢
              go_simp
              exact hK.out _ _ rfl (Below.refl _ _)
            case o17 =>
              intro vs W hw hd K hK
              have h11 : vs 11 = .bool false := hd 11 (by kernel_rfl)
              simp only [Nat.reduceAdd, h11] at hK ⊢
              go_simp
              exact hK.out _ _ rfl (Below.refl _ _)
            case o18 =>
              intro vs W hw hd K hK
              have h11 : vs 11 = .bool false := hd 11 (by kernel_rfl)
              simp only [Nat.reduceAdd, h11] at hK ⊢
              go_simp
              exact hK.out _ _ rfl (Below.refl _ _)
            case o19 =>
              intro vs W hw hd K hK
              have h11 : vs 11 = .bool false := hd 11 (by kernel_rfl)
              have h17 : vs 17 = .slice (some ⟨g2, o2, none⟩) n vc := hd 17 (by kernel_rfl)
              have h18 : vs 18 = .int .i64 (k : Int) := hd 18 (by kernel_rfl)
              simp only [Nat.reduceAdd, h11, h17, h18] at hK ⊢
              go_simp
              exact hK.out _ _ rfl (Below.refl _ _)
            case o20 =>
              intro vs W hw hd K hK
              have h11 : vs 11 = .bool false := hd 11 (by kernel_rfl)
              have h19 : vs 19 = .pointer (some ⟨g2, o2 + k * 5, none⟩) := hd 19 (by kernel_rfl)
              simp only [Nat.reduceAdd, h11, h19] at hK ⊢
              go_simp
              exact hK.out _ _ rfl (Below.refl _ _)
            case o21 =>
              intro vs W hw hd K hK
              have h11 : vs 11 = .bool false := hd 11 (by kernel_rfl)
              have h20 : vs 20 = .pointer (some ⟨g2, o2 + k * 5 + 1, none⟩) := hd 20 (by kernel_rfl)
              obtain ⟨c0, c1, c2, c3, c4⟩ := HC2.out W hw
              simp only [Nat.reduceAdd, h11, h20] at hK ⊢
              go_simp
              exact hK.out _ _ rfl (Below.refl _ _)
            case o22 =>
              intro vs W hw hd K hK
              have h11 : vs 11 = .bool false := hd 11 (by kernel_rfl)
              have h16 : vs 16 = .int .i64 fk := hd 16 (by kernel_rfl)
              have h21 : vs 21 = .int .i64 fk := hd 21 (by kernel_rfl)
              simp only [Nat.reduceAdd, h11, h16, h21] at hK ⊢
              go_simp
              exact hK.out _ _ rfl (Below.refl _ _)
            case o23 =>
              intro vs W hw hd K hK
              have h11 : vs 11 = .bool false := hd 11 (by kernel_rfl)
              have h22 : vs 22 = .bool false := hd 22 (by kernel_rfl)
              simp only [Nat.reduceAdd, h11, h22] at hK ⊢
              go_simp
              exact hK.out _ _ rfl (Below.refl _ _)
            case o24 =>
              intro vs W hw hd K hK
              have h23 : vs 23 = .bool false := hd 23 (by kernel_rfl)
              simp only [Nat.reduceAdd, h23] at hK ⊢
              go_simp
              exact hK.out _ _ rfl (Below.refl _ _)
            case o25 =>
              intro vs W hw hd K hK
              have h24 : vs 24 = .bool false := hd 24 (by kernel_rfl)
              simp only [Nat.reduceAdd, h24] at hK ⊢
              go_simp
              exact hK.out _ _ rfl (Below.refl _ _)
            case o26 =>
              intro vs W hw hd K hK
              have h24 : vs 24 = .bool false := hd 24 (by kernel_rfl)
              simp only [Nat.reduceAdd, h24] at hK ⊢
              go_simp
              exact hK.out _ _ rfl (Below.refl _ _)
            case o27 =>
              intro vs W hw hd K hK
              have h24 : vs 24 = .bool false := hd 24 (by kernel_rfl)
              have h25 : vs 25 = .slice (some ⟨g1, o1, none⟩) n uc := hd 25 (by kernel_rfl)
              have h26 : vs 26 = .int .i64 (k : Int) := hd 26 (by kernel_rfl)
              simp only [Nat.reduceAdd, h24, h25, h26] at hK ⊢
              go_simp
              exact hK.out _ _ rfl (Below.refl _ _)
            case o28 =>
              intro vs W hw hd K hK
              have h24 : vs 24 = .bool false := hd 24 (by kernel_rfl)
              have h27 : vs 27 = .pointer (some ⟨g1, o1 + k * 5, none⟩) := hd 27 (by kernel_rfl)
              simp only [Nat.reduceAdd, h24, h27] at hK ⊢
              go_simp
              exact hK.out _ _ rfl (Below.refl _ _)
            case o29 =>
              intro vs W hw hd K hK
              have h24 : vs 24 = .bool false := hd 24 (by kernel_rfl)
              have h28 : vs 28 = .pointer (some ⟨g1, o1 + k * 5 + 2, none⟩) := hd 28 (by kernel_rfl)
              obtain ⟨c0, c1, c2, c3, c4⟩ := HC1.out W hw
              simp only [Nat.reduceAdd, h24, h28] at hK ⊢
              go_simp
              exact hK.out _ _ rfl (Below.refl _ _)
            case o30 =>
              intro vs W hw hd K hK
              have h24 : vs 24 = .bool false := hd 24 (by kernel_rfl)
              simp only [Nat.reduceAdd, h24] at hK ⊢
              go_simp
              exact hK.out _ _ rfl (Below.refl _ _)
            case o31 =>
              intro vs W hw hd K hK
              have h24 : vs 24 = .bool false := hd 24 (by kernel_rfl)
              simp only [Nat.reduceAdd, h24] at hK ⊢
              go_simp
              exact hK.out _ _ rfl (Below.refl _ _)
            case o32 =>
              intro vs W hw hd K hK
              have h24 : vs 24 = .bool false := hd 24 (by kernel_rfl)
              have h30 : vs 30 = .slice (some ⟨g2, o2, none⟩) n vc := hd 30 (by kernel_rfl)
              have h31 : vs 31 = .int .i64 (k : Int) := hd 31 (by kernel_rfl)
              simp only [Nat.reduceAdd, h24, h30, h31] at hK ⊢
              go_simp
              exact hK.out _ _ rfl (Below.refl _ _)
            case o33 =>
              intro vs W hw hd K hK
              have h24 : vs 24 = .bool false := hd 24 (by kernel_rfl)
              have h32 : vs 32 = .pointer (some ⟨g2, o2 + k * 5, none⟩) := hd 32 (by kernel_rfl)
              simp only [Nat.reduceAdd, h24, h32] at hK ⊢
              go_simp
              exact hK.out _ _ rfl (Below.refl _ _)
            case o34 =>
              intro vs W hw hd K hK
              have h24 : vs 24 = .bool false := hd 24 (by kernel_rfl)
              have h33 : vs 33 = .pointer (some ⟨g2, o2 + k * 5 + 2, none⟩) := hd 33 (by kernel_rfl)
              obtain ⟨c0, c1, c2, c3, c4⟩ := HC2.out W hw
              simp only [Nat.reduceAdd, h24, h33] at hK ⊢
              go_simp
              exact hK.out _ _ rfl (Below.refl _ _)
            case o35 =>
              intro vs W hw hd K hK
              have h24 : vs 24 = .bool false := hd 24 (by kernel_rfl)
              have h29 : vs 29 = .string fh := hd 29 (by kernel_rfl)
              have h34 : vs 34 = .string fh := hd 34 (by kernel_rfl)
              simp only [Nat.reduceAdd, h24, h29, h34] at hK ⊢
              go_simp
              exact hK.out _ _ rfl (Below.refl _ _)
            case o36 =>
              intro vs W hw hd K hK
              have h24 : vs 24 = .bool false := hd 24 (by kernel_rfl)
              have h35 : vs 35 = .bool false := hd 35 (by kernel_rfl)
              simp only [Nat.reduceAdd, h24, h35] at hK ⊢
              go_simp
              exact hK.out _ _ rfl (Below.refl _ _)
            case o37 =>
              intro vs W hw hd K hK
              have h36 : vs 36 = .bool false := hd 36 (by kernel_rfl)
              simp only [Nat.reduceAdd, h36] at hK ⊢
              go_simp
              exact hK.out _ _ rfl (Below.refl _ _)
            case o38 =>
              intro vs W hw hd K hK
              have h37 : vs 37 = .bool false := hd 37 (by kernel_rfl)
              simp only [Nat.reduceAdd, h37] at hK ⊢
              go_simp
              exact hK.out _ _ rfl (Below.refl _ _)
            case o39 =>
              intro vs W hw hd K hK
              have h37 : vs 37 = .bool false := hd 37 (by kernel_rfl)
              simp only [Nat.reduceAdd, h37] at hK ⊢
              go_simp
              exact hK.out _ _ rfl (Below.refl _ _)
            case o40 =>
              intro vs W hw hd K hK
              have h37 : vs 37 = .bool false := hd 37 (by kernel_rfl)
              have h38 : vs 38 = .slice (some ⟨g1, o1, none⟩) n uc := hd 38 (by kernel_rfl)
              have h39 : vs 39 = .int .i64 (k : Int) := hd 39 (by kernel_rfl)
              simp only [Nat.reduceAdd, h37, h38, h39] at hK ⊢
              go_simp
              exact hK.out _ _ rfl (Below.refl _ _)
            case o41 =>
              intro vs W hw hd K hK
              have h37 : vs 37 = .bool false := hd 37 (by kernel_rfl)
              have h40 : vs 40 = .pointer (some ⟨g1, o1 + k * 5, none⟩) := hd 40 (by kernel_rfl)
              simp only [Nat.reduceAdd, h37, h40] at hK ⊢
              go_simp
              exact hK.out _ _ rfl (Below.refl _ _)
            case o42 =>
              intro vs W hw hd K hK
              have h37 : vs 37 = .bool false := hd 37 (by kernel_rfl)
              have h41 : vs 41 = .pointer (some ⟨g1, o1 + k * 5 + 3, none⟩) := hd 41 (by kernel_rfl)
              obtain ⟨c0, c1, c2, c3, c4⟩ := HC1.out W hw
              simp only [Nat.reduceAdd, h37, h41] at hK ⊢
              go_simp
              exact hK.out _ _ rfl (Below.refl _ _)
            case o43 =>
              intro vs W hw hd K hK
              have h37 : vs 37 = .bool false := hd 37 (by kernel_rfl)
              simp only [Nat.reduceAdd, h37] at hK ⊢
              go_simp
              exact hK.out _ _ rfl (Below.refl _ _)
            case o44 =>
              intro vs W hw hd K hK
              have h37 : vs 37 = .bool false := hd 37 (by kernel_rfl)
              simp only [Nat.reduceAdd, h37] at hK ⊢
              go_simp
              exact hK.out _ _ rfl (Below.refl _ _)
            case o45 =>
              intro vs W hw hd K hK
              have h37 : vs 37 = .bool false := hd 37 (by kernel_rfl)
              have h43 : vs 43 = .slice (some ⟨g2, o2, none⟩) n vc := hd 43 (by kernel_rfl)
              have h44 : vs 44 = .int .i64 (k : Int) := hd 44 (by kernel_rfl)
              simp only [Nat.reduceAdd, h37, h43, h44] at hK ⊢
              go_simp
              exact hK.out _ _ rfl (Below.refl _ _)
            case o46 =>
              intro vs W hw hd K hK
              have h37 : vs 37 = .bool false := hd 37 (by kernel_rfl)
              have h45 : vs 45 = .pointer (some ⟨g2, o2 + k * 5, none⟩) := hd 45 (by kernel_rfl)
              simp only [Nat.reduceAdd, h37, h45] at hK ⊢
              go_simp
              exact hK.out _ _ rfl (Below.refl _ _)
            case o47 =>
              intro vs W hw hd K hK
              have h37 : vs 37 = .bool false := hd 37 (by kernel_rfl)
              have h46 : vs 46 = .pointer (some ⟨g2, o2 + k * 5 + 3, none⟩) := hd 46 (by kernel_rfl)
              obtain ⟨c0, c1, c2, c3, c4⟩ := HC2.out W hw
              simp only [Nat.reduceAdd, h37, h46] at hK ⊢
              go_simp
              exact hK.out _ _ rfl (Below.refl _ _)
            case o48 =>
              intro vs W hw hd K hK
              have h37 : vs 37 = .bool false := hd 37 (by kernel_rfl)
              have h42 : vs 42 = .slice sa1 sn sc1 := hd 42 (by kernel_rfl)
              have h47 : vs 47 = .slice sa2 sn sc2 := hd 47 (by kernel_rfl)
              simp only [Nat.reduceAdd, h37, h42, h47] at hK ⊢
              go_simp
              refine (cT.out W hw).mono ?_
              rintro e W' ⟨rfl, hb'⟩
              exact hK.out _ _ rfl hb'
            case o49 =>
              intro vs W hw hd K hK
              have h37 : vs 37 = .bool false := hd 37 (by kernel_rfl)
              have h48 : vs 48 = .bool true := hd 48 (by kernel_rfl)
              simp only [Nat.reduceAdd, h37, h48] at hK ⊢
              go_simp
              exact hK.out _ _ rfl (Below.refl _ _)
            case o50 =>
              intro vs W hw hd K hK
              have h37 : vs 37 = .bool false := hd 37 (by kernel_rfl)
              have h49 : vs 49 = .bool false := hd 49 (by kernel_rfl)
              simp only [Nat.reduceAdd, h37, h49] at hK ⊢
              go_simp
              exact hK.out _ _ rfl (Below.refl _ _)
            case o51 =>
              intro vs W hw hd K hK
              have h50 : vs 50 = .bool false := hd 50 (by kernel_rfl)
              simp only [Nat.reduceAdd, h50] at hK ⊢
              go_simp
              exact hK.out _ _ rfl (Below.refl _ _)
            case o52 =>
              intro vs W hw hd K hK
              have h51 : vs 51 = .bool false := hd 51 (by kernel_rfl)
              simp only [Nat.reduceAdd, h51] at hK ⊢
              go_simp
              exact hK.out _ _ rfl (Below.refl _ _)
            case o53 =>
              intro vs W hw hd K hK
              have h51 : vs 51 = .bool false := hd 51 (by kernel_rfl)
              simp only [Nat.reduceAdd, h51] at hK ⊢
              go_simp
              exact hK.out _ _ rfl (Below.refl _ _)
            case o54 =>
              intro vs W hw hd K hK
              have h51 : vs 51 = .bool false := hd 51 (by kernel_rfl)
              have h52 : vs 52 = .slice (some ⟨g1, o1, none⟩) n uc := hd 52 (by kernel_rfl)
              have h53 : vs 53 = .int .i64 (k : Int) := hd 53 (by kernel_rfl)
              simp only [Nat.reduceAdd, h51, h52, h53] at hK ⊢
              go_simp
              exact hK.out _ _ rfl (Below.refl _ _)
            case o55 =>
              intro vs W hw hd K hK
              have h51 : vs 51 = .bool false := hd 51 (by kernel_rfl)
              have h54 : vs 54 = .pointer (some ⟨g1, o1 + k * 5, none⟩) := hd 54 (by kernel_rfl)
              simp only [Nat.reduceAdd, h51, h54] at hK ⊢
              go_simp
              exact hK.out _ _ rfl (Below.refl _ _)
            case o56 =>
              intro vs W hw hd K hK
              have h51 : vs 51 = .bool false := hd 51 (by kernel_rfl)
              have h55 : vs 55 = .pointer (some ⟨g1, o1 + k * 5 + 4, none⟩) := hd 55 (by kernel_rfl)
              obtain ⟨c0, c1, c2, c3, c4⟩ := HC1.out W hw
              simp only [Nat.reduceAdd, h51, h55] at hK ⊢
              go_simp
              exact hK.out _ _ rfl (Below.refl _ _)
            case o57 =>
              intro vs W hw hd K hK
              have h51 : vs 51 = .bool false := hd 51 (by kernel_rfl)
              simp only [Nat.reduceAdd, h51] at hK ⊢
              go_simp
              exact hK.out _ _ rfl (Below.refl _ _)
            case o58 =>
              intro vs W hw hd K hK
              have h51 : vs 51 = .bool false := hd 51 (by kernel_rfl)
              simp only [Nat.reduceAdd, h51] at hK ⊢
              go_simp
              exact hK.out _ _ rfl (Below.refl _ _)
            case o59 =>
              intro vs W hw hd K hK
              have h51 : vs 51 = .bool false := hd 51 (by kernel_rfl)
              have h57 : vs 57 = .slice (some ⟨g2, o2, none⟩) n vc := hd 57 (by kernel_rfl)
              have h58 : vs 58 = .int .i64 (k : Int) := hd 58 (by kernel_rfl)
              simp only [Nat.reduceAdd, h51, h57, h58] at hK ⊢
              go_simp
              exact hK.out _ _ rfl (Below.refl _ _)
            case o60 =>
              intro vs W hw hd K hK
              have h51 : vs 51 = .bool false := hd 51 (by kernel_rfl)
              have h59 : vs 59 = .pointer (some ⟨g2, o2 + k * 5, none⟩) := hd 59 (by kernel_rfl)
              simp only [Nat.reduceAdd, h51, h59] at hK ⊢
              go_simp
              exact hK.out _ _ rfl (Below.refl _ _)
            case o61 =>
              intro vs W hw hd K hK
              have h51 : vs 51 = .bool false := hd 51 (by kernel_rfl)
              have h60 : vs 60 = .pointer (some ⟨g2, o2 + k * 5 + 4, none⟩) := hd 60 (by kernel_rfl)
              obtain ⟨c0, c1, c2, c3, c4⟩ := HC2.out W hw
              simp only [Nat.reduceAdd, h51, h60] at hK ⊢
              go_simp
              exact hK.out _ _ rfl (Below.refl _ _)
            case o62 =>
              intro vs W hw hd K hK
              have h51 : vs 51 = .bool false := hd 51 (by kernel_rfl)
              have h56 : vs 56 = .slice ta1 tn tc1 := hd 56 (by kernel_rfl)
              have h61 : vs 61 = .slice ta2 tn tc2 := hd 61 (by kernel_rfl)
              simp only [Nat.reduceAdd, h51, h56, h61] at hK ⊢
              go_simp
              refine (cI.out W hw).mono ?_
              rintro e W' ⟨rfl, hb'⟩
              exact hK.out _ _ rfl hb'
            case o63 =>
              intro vs W hw hd K hK
              have h51 : vs 51 = .bool false := hd 51 (by kernel_rfl)
              have h62 : vs 62 = .bool true := hd 62 (by kernel_rfl)
              simp only [Nat.reduceAdd, h51, h62] at hK ⊢
              go_simp
              exact hK.out _ _ rfl (Below.refl _ _)
            case o64 =>
              intro vs W hw hd K hK
              have h51 : vs 51 = .bool false := hd 51 (by kernel_rfl)
              have h63 : vs 63 = .bool false := hd 63 (by kernel_rfl)
              simp only [Nat.reduceAdd, h51, h63] at hK ⊢
              go_simp
              exact hK.out _ _ rfl (Below.refl _ _)
          case hfin =>
            intro vs W hw hd
            have h64 : vs 64 = .bool false := hd 64 (by decide)
            simp only [Nat.reduceAdd, h64]
            go_wp2_with fail
            go_meet
            exact ⟨rfl, hw⟩
      case rest =>
        obtain ⟨rfl, hwx⟩ := hcut
        have HB2 := Lib.hid (HB.out.trans (hwx.mono HB.out.size))
        clear hwx cT cI HC1 HC2
        go_wp2
        go_roundw
        case rel => exact ⟨k + 1, by go_num, by omega, HB2⟩
        case measure => simp [intOf]; omega
    · obtain rfl : k = n := by omega
      go_wp2
      first | exact ⟨rfl, HB.out⟩ | (go_ret; exact ⟨rfl, HB.out⟩)
end

section
open Go.RowKit Go.PlainAid
theorem hd_small (kd : Int) (x : List UInt8) (h : hdE kd x = 0) : validT x = true ∧ x.length ≤ 200 := by
  rw [hdE_eq] at h
  by_cases hb : badH kd x = true
  · rw [if_pos hb] at h
    cases h
  · rw [if_neg hb] at h
    refine ⟨?_, ?_⟩
    · cases hv : validT x with
      | true => rfl
      | false =>
        exfalso
        apply hb
        unfold badH
        rw [hv]
        rfl
    · by_cases h2 : 200 < x.length
      · rw [if_pos (.inl h2)] at h
        cases h
      · omega
theorem shape_small (a : Au) (h : shapeI a = 0) : a.see.length ≤ 8 ∧ ∀ x ∈ hdsX a, validT x = true ∧ x.length ≤ 200 := by
  unfold shapeI at h
  split at h
  · cases h
  · by_cases hf : firstI ((hdsX a).map (hdE a.kind)) = 0
    · rw [hf, if_neg (fun g => g rfl)] at h
      refine ⟨?_, fun x hx => ?_⟩
      · by_cases h8 : 8 < a.see.length
        · rw [if_pos h8] at h
          cases h
        · omega
      · exact hd_small a.kind x (firstI_all _ hf _ (List.mem_map.2 ⟨x, hx, rfl⟩))
    · rw [if_pos hf] at h
      exact absurd h hf
theorem right_small (L : List Au) (h : rightA L = 0) : bnd L ∧ ∀ a ∈ L, ∀ x ∈ hdsX a, validT x = true := by
  obtain ⟨h1, h2, _, h4, _⟩ := right_out L h
  obtain ⟨_, o2, _⟩ := ones_out L none h2
  refine ⟨⟨h1, fun a ha => ?_⟩, fun a ha x hx => ((shape_small a (o2 a ha).1).2 x hx).1⟩
  obtain ⟨s1, s2⟩ := shape_small a (o2 a ha).1
  refine ⟨by omega, ?_, fun x hx => Nat.le_trans (s2 x hx).2 (by decide)⟩
  have := h4 a ha
  unfold abvE at this
  by_cases h5 : 4 < a.above.length
  · rw [if_pos h5] at this
    cases this
  · omega
theorem find_kind (kd : Int) (n : List UInt8) (id : Int) (p : Bool) : ∀ X : List Au, findR X kd n = (id, p, true) → ∃ b ∈ X, b.kind = kd
  | [], h => by simp [findR] at h
  | a :: r, h => by
    by_cases hk : a.kind = kd
    · exact ⟨a, List.mem_cons_self .., hk⟩
    · unfold findR at h
      rw [if_neg hk] at h
      obtain ⟨b, hb, e⟩ := find_kind kd n id p r h
      exact ⟨b, List.mem_cons_of_mem _ hb, e⟩
theorem lead_kind (X : List Au) (hr : rightA X = 0) (kd id : Int) (x : List UInt8) (p : Bool) (h : findA X kd x = (id, p, true)) : -9223372036854775808 ≤ kd ∧ kd ≤ 9223372036854775807 := by
  unfold findA at h
  split at h
  · cases h
  · obtain ⟨b, hb, rfl⟩ := find_kind kd _ id p X h
    have h1 := ((ones_out X none (right_out X hr).2.1).2.1 b hb).1
    unfold shapeI at h1
    by_cases h2 : b.kind < 1 ∨ 4 < b.kind
    · rw [if_pos h2] at h1
      cases h1
    · omega
set_option maxHeartbeats 16000000 in
set_option maxRecDepth 100000 in
theorem llead_any (C : Pr13) (vx : Value) (X : List Au) (a : Au) (s t : Value) (id : Int) (w : World) (hE : Env w) (hX : AL vx X w) (hr : rightA X = 0) (h : AN a s t w) (hz : a.see.length ≤ 1000)
    (hval : ∀ x ∈ hdsX a, validT x = true ∧ x.length ≤ 1000) (hl : ∀ x ∈ hdsX a, ∃ p, findA X a.kind x = (id, p, true)) :
    Calls Tryz.prog 19 #[vx, AV a s t, .int .i64 id] w fun e w' => e = .returned (.bool true) ∧ Below w.heap.size w w' := by
  obtain ⟨W0, hW0⟩ : ∃ W, w.alloc (.cells #[.int .i64 a.id, .int .i64 a.kind, .string (S a.heading), s, t] 31) = W := ⟨_, rfl⟩
  have b0 : Below w.heap.size w W0 := by rw [← hW0]; exact (Below.refl _ _).alloc (Nat.le_refl _) _
  have hR0 : W0.heap[w.heap.size]? = some (.cells #[.int .i64 a.id, .int .i64 a.kind, .string (S a.heading), s, t] 31 (0, 0)) := by rw [← hW0]; exact heap_alloc_new w _
  have hlt0 : w.heap.size < W0.heap.size := by rw [← hW0]; simp
  have HBel := Lib.hid (fun (W : World) (h : Below W0.heap.size W0 W) => b0.trans (h.mono b0.size))
  have HBox := Lib.hid (fun (W : World) (h : Below W0.heap.size W0 W) => acells ((h.block w.heap.size hlt0).trans hR0))
  have cH := Lib.hid (refHeadings_any a s t W0 (h.after b0) (by omega))
  have HF := Lib.hid (fun (x : List UInt8) (hx : x ∈ hdsX a) (W : World) (hb : Below W0.heap.size W0 W) => C.find vx X a.kind x W (hE.after (b0.trans (hb.mono b0.size))) (hX.after (b0.trans (hb.mono b0.size))) (right_small X hr).1 hr (hval x hx).1 (hval x hx).2 (by obtain ⟨p, hp⟩ := hl x hx; exact lead_kind X hr a.kind id x p hp))
  have HL := Lib.hid hl
  have HW0 := Lib.hid hW0
  obtain ⟨sa, sc, hs, -, -⟩ := h.1.length
  subst hs
  obtain ⟨ta, tc, ht, -⟩ := h.2.length
  subst ht
  obtain ⟨xa, xc, hvx, -, -⟩ := hX.length
  subst hvx
  have hhl : (hdsX a).length = a.see.length + 1 := by unfold hdsX; rw [List.length_cons]
  obtain ⟨ns, hns⟩ : ∃ n, a.see.length = n := ⟨_, rfl⟩
  rw [hns] at cH HBox HW0 hz hhl ⊢
  obtain ⟨nt, hnt⟩ : ∃ n, a.above.length = n := ⟨_, rfl⟩
  rw [hnt] at cH HBox HW0 ⊢
  obtain ⟨xn, hxn⟩ : ∃ n, X.length = n := ⟨_, rfl⟩
  rw [hxn] at HF ⊢
  unfold AV at cH ⊢
  obtain ⟨kd, hkd⟩ : ∃ k, a.kind = k := ⟨_, rfl⟩
  rw [hkd] at cH HBox HW0 HF HL ⊢
  obtain ⟨⟨x0, x1, x2, x3, x4⟩, -⟩ := HBox.out W0 (Below.refl _ _)
  clear C hE hX hr hval hl h hW0 hR0 b0 hlt0 hns hnt hxn hkd
  go_enter Tryz.func19, Tryz.ntmps19
  go_upto_region 1 with fail
  rw [HW0.out]
  clear HW0
  go_wp2_with fail
  refine cH.out.mono ?_
  rintro e w1 ⟨v, rfl, hr1, hb1⟩
  obtain ⟨gp, cpp, rfl⟩ := sr_form hr1
  have HP := Lib.hid hr1.bl
  have HB1 := Lib.hid hb1
  obtain ⟨n, hn⟩ : ∃ n, (hdsX a).length = n := ⟨_, rfl⟩
  have HN := Lib.hid hn
  have hn9 : n ≤ 1001 := by omega
  rw [hn] at HP ⊢
  clear hr1 hb1 cH hn hhl x0 x1 x2 x3 x4
  go_wp2
  go_loopw [8] (fun i wr => ∃ k : Nat, i = .int .i64 (k : Int) ∧ k ≤ n ∧ RowKit.Hid (Below w1.heap.size w1 wr)) (fun i _ => n - (intOf i).toNat)
  case atStart => exact ⟨0, rfl, Nat.zero_le _, Below.refl _ _⟩
  case round =>
    obtain ⟨k, rfl, hk, HB⟩ := hrel
    have BW := Lib.hid (HB1.out.trans (HB.out.mono HB1.out.size))
    by_cases hkn : k < n
    · have i1 : (0 : Int) ≤ (k : Int) := by omega
      have i2 : (k : Int) < (n : Int) := by omega
      have hmem := mem_getD12 (hdsX a) k (by rw [HN.out]; exact hkn)
      have HCell : RowKit.Hid (∀ W, Below wr.heap.size wr W → W.cell? ⟨gp, k, none⟩ = some (.string (S ((hdsX a).getD k [])))) := by
        intro W hW
        obtain ⟨g2, o2, cap2, he, hg, c0⟩ := ((HP.out.after HB.out).after hW).at12 k (by rw [HN.out]; exact hkn)
        obtain ⟨ha, -, hcp⟩ := Value.slice.inj he
        obtain ⟨rfl, rfl, -⟩ := Addr.mk.inj (Option.some.inj ha)
        rw [Nat.zero_add] at c0
        exact c0
      have HBk : RowKit.Hid (∀ W, Below wr.heap.size wr W → W.cell? ⟨w.heap.size, 1, none⟩ = some (.int .i64 kd)) := fun W hW => (HBox.out W (BW.out.trans (hW.mono BW.out.size))).1.2.1
      obtain ⟨p, hp⟩ := HL.out _ hmem
      have cF := Lib.hid (fun (W : World) (hW : Below wr.heap.size wr W) => HF.out _ hmem W (BW.out.trans (hW.mono BW.out.size)))
      rw [hp] at cF
      generalize S ((hdsX a).getD k []) = sx at *
      clear hmem hp
      go_upto_region 5 with fail
      go_cut [9, 11] from 20 to 31 (fun v9 v11 wx => v9 = .int .i64 id ∧ v11 = .bool true ∧ Below wr.heap.size wr wx)
      case first =>
          apply wp_region_inv (V := [.eq (.slice xa xn xc), .eq (.pointer (some ⟨w.heap.size, 1, none⟩)), .eq (.int .i64 kd), .eq (.slice (some ⟨gp, 0, none⟩) n cpp), .eq (.int .i64 (k : Int)), .eq (.pointer (some ⟨gp, k, none⟩)), .eq (.string sx), .eq (.tuple #[.int .i64 id, .bool p, .bool true]), .eq (.tuple #[.int .i64 id, .bool p, .bool true]), .eq (.int .i64 id), .eq (.bool p), .eq (.bool true), .eq (.int .i64 id), .eq (.bool p), .eq (.bool true)])
          case hm => kernel_rfl
          case hd => kernel_rfl
          case hb => kernel_rfl
          case hA =>
            intro vs
            simp only [puts, Act.put, List.setIfInBounds_toArray, List.set_cons_zero, List.set_cons_succ]
            exact rfl
          case hob =>
            refine Obs.cons _ _ _ _ _ _ ?o0 (Obs.cons _ _ _ _ _ _ ?o1 (Obs.cons _ _ _ _ _ _ ?o2 (Obs.cons _ _ _ _ _ _ ?o3 (Obs.cons _ _ _ _ _ _ ?o4 (Obs.cons _ _ _ _ _ _ ?o5 (Obs.cons _ _ _ _ _ _ ?o6 (Obs.cons _ _ _ _ _ _ ?o7 (Obs.cons _ _ _ _ _ _ ?o8 (Obs.cons _ _ _ _ _ _ ?o9 (Obs.cons _ _ _ _ _ _ ?o10 (Obs.cons _ _ _ _ _ _ ?o11 (Obs.cons _ _ _ _ _ _ ?o12 (Obs.cons _ _ _ _ _ _ ?o13 (Obs.cons _ _ _ _ _ _ ?o14 (Obs.nil _ _ _ _ _ _)))))))))))))))
            case o0 =>
              intro vs W hw hd K hK
              go_simp
              exact hK.out _ _ rfl (Below.refl _ _)
            case o1 =>
              intro vs W hw hd K hK
              go_simp
              exact hK.out _ _ rfl (Below.refl _ _)
            case o2 =>
              intro vs W hw hd K hK
              have h1 : vs 1 = .pointer (some ⟨w.heap.size, 1, none⟩) := hd 1 (by kernel_rfl)
              have c1 := HBk.out W hw
              simp only [Nat.reduceAdd, h1] at hK ⊢
              go_simp
              exact hK.out _ _ rfl (Below.refl _ _)
            case o3 =>
              intro vs W hw hd K hK
              go_simp
              exact hK.out _ _ rfl (Below.refl _ _)
            case o4 =>
              intro vs W hw hd K hK
              go_simp
              exact hK.out _ _ rfl (Below.refl _ _)
            case o5 =>
              intro vs W hw hd K hK
              have h3 : vs 3 = .slice (some ⟨gp, 0, none⟩) n cpp := hd 3 (by kernel_rfl)
              have h4 : vs 4 = .int .i64 (k : Int) := hd 4 (by kernel_rfl)
              simp only [Nat.reduceAdd, h3, h4] at hK ⊢
              go_simp
              exact hK.out _ _ rfl (Below.refl _ _)
            case o6 =>
              intro vs W hw hd K hK
              have h5 : vs 5 = .pointer (some ⟨gp, k, none⟩) := hd 5 (by kernel_rfl)
              have c0 := HCell.out W hw
              simp only [Nat.reduceAdd, h5] at hK ⊢
              go_simp
              exact hK.out _ _ rfl (Below.refl _ _)
            case o7 =>
              intro vs W hw hd K hK
              have h0 : vs 0 = .slice xa xn xc := hd 0 (by kernel_rfl)
              have h2 : vs 2 = .int .i64 kd := hd 2 (by kernel_rfl)
              have h6 : vs 6 = .string sx := hd 6 (by kernel_rfl)
              simp only [Nat.reduceAdd, h0, h2, h6] at hK ⊢
              go_simp
              refine (cF.out W hw).mono ?_
              rintro e W' ⟨rfl, hb'⟩
              exact hK.out _ _ rfl hb'
            case o8 =>
              intro vs W hw hd K hK
              have h7 : vs 7 = .tuple #[.int .i64 id, .bool p, .bool true] := hd 7 (by kernel_rfl)
              simp only [Nat.reduceAdd, h7] at hK ⊢
              go_simp
              exact hK.out _ _ rfl (Below.refl _ _)
            case o9 =>
              intro vs W hw hd K hK
              have h8 : vs 8 = .tuple #[.int .i64 id, .bool p, .bool true] := hd 8 (by kernel_rfl)
              simp only [Nat.reduceAdd, h8] at hK ⊢
              go_simp
              exact hK.out _ _ rfl (Below.refl _ _)
            case o10 =>
              intro vs W hw hd K hK
              have h8 : vs 8 = .tuple #[.int .i64 id, .bool p, .bool true] := hd 8 (by kernel_rfl)
              simp only [Nat.reduceAdd, h8] at hK ⊢
              go_simp
              exact hK.out _ _ rfl (Below.refl _ _)
            case o11 =>
              intro vs W hw hd K hK
              have h8 : vs 8 = .tuple #[.int .i64 id, .bool p, .bool true] := hd 8 (by kernel_rfl)
              simp only [Nat.reduceAdd, h8] at hK ⊢
              go_simp
              exact hK.out _ _ rfl (Below.refl _ _)
            case o12 =>
              intro vs W hw hd K hK
              have h9 : vs 9 = .int .i64 id := hd 9 (by kernel_rfl)
              simp only [Nat.reduceAdd, h9] at hK ⊢
              go_simp
              exact hK.out _ _ rfl (Below.refl _ _)
            case o13 =>
              intro vs W hw hd K hK
              have h10 : vs 10 = .bool p := hd 10 (by kernel_rfl)
              simp only [Nat.reduceAdd, h10] at hK ⊢
              go_simp
              exact hK.out _ _ rfl (Below.refl _ _)
            case o14 =>
              intro vs W hw hd K hK
              have h11 : vs 11 = .bool true := hd 11 (by kernel_rfl)
              simp only [Nat.reduceAdd, h11] at hK ⊢
              go_simp
              exact hK.out _ _ rfl (Below.refl _ _)
          case hfin =>
            intro vs W hw hd
            have h12 : vs 12 = .int .i64 id := hd 12 (by decide)
            have h14 : vs 14 = .bool true := hd 14 (by decide)
            simp only [Nat.reduceAdd, h12, h14]
            go_wp2_with fail
            go_meet
            exact ⟨rfl, rfl, hw⟩
      case rest =>
        obtain ⟨rfl, rfl, hwx⟩ := hcut
        have HB2 := Lib.hid (HB.out.trans (hwx.mono HB.out.size))
        clear hwx cF HCell HBk
        go_wp2
        go_roundw
        case rel => exact ⟨k + 1, by go_num, by omega, HB2⟩
        case measure => simp [intOf]; omega
    · obtain rfl : k = n := by omega
      have hno := HBel.out wr BW.out
      go_wp2
      first | exact ⟨rfl, hno⟩ | (go_ret; exact ⟨rfl, hno⟩)
end

section
open Go.RowKit Go.PlainAid Go.Maps
/-- append whose run is known, as one step of a region that draws. -/
theorem step_append_run {P : Program} {ops : Array Oper} {o : Oper} {a : Act} {w w' : World} {v : Value} {K : Act → World → Prop} {Q : Exit → Act → World → Prop} {E : Prop} (hgd : o.guard = none) (d s : Operand) (t1 t2 : TypeId)
    (ho : o.op = .call { callee := .builtin .append, args := #[d, s], argTypes := #[t1, t2] }) (u x : Value) (hd : a.eval d = u) (hs : a.eval s = x) (hrun : (Builtin.append_ #[t1, t2] o.type #[u, x]).run P w = .ok v w')
    (h : K (a.put o.dst v) w') : if Region.wanted o (yielded ops a.tmps) = true then Oper.wp P o a w K Q else E := by
  have hw : Region.wanted o (yielded ops a.tmps) = true := by simp [Region.wanted, hgd]
  rw [if_pos hw]
  unfold Oper.wp
  simp [execOp, ho, resolve, invoke, builtin, hd, hs, hrun, Result.andThen]
  exact h
/-- One heading more behind a row of one's own. -/
theorem append_one13 (B : Nat) (v : Value) (M : List (List UInt8)) (y : List UInt8) (w : World) (h : NR B v M w) (hz : M.length ≤ 100000) (hB : B ≤ w.heap.size) (ty : TypeId) :
    ∃ v' w', (Builtin.append_ #[28, 28] ty #[v, .slice (some ⟨w.heap.size, 0, none⟩) 1 1]).run Tryz.prog (w.alloc (.cells #[.string (S y)] 9)) = .ok v' w' ∧ NR B v' (M ++ [y]) w' ∧ (w.alloc (.cells #[.string (S y)] 9)).grownBy w' v.ownBlock ∧ (v'.ownBlock = v.ownBlock ∨ ∃ k, v'.ownBlock = some k ∧ (w.alloc (.cells #[.string (S y)] 9)).heap.size ≤ k) := by
  obtain ⟨i0, hi, hz0, hz1, hz2⟩ := info_string
  have hrow := World.ownsRow.alloc h (.cells #[.string (S y)] 9)
  have h1 : ∀ u ∈ [strB y], u.oneCell' = true := by intro u hu; simp at hu; subst hu; rfl
  obtain ⟨v', w', hr, h2, h3, h4⟩ := run_append_own (P := Tryz.prog) _ B 28 ty 9 i0 (.string ⟨#[]⟩) 1 16 Tryz.underlying28 hi hz0 hz1 hz2 rfl (by decide) v M.length _ hrow ⟨w.heap.size, 0, none⟩ 1 1 [strB y] rfl (cells_one12 _ _ _) h1 (by unfold maxLen; omega) (by omega) (by simp; omega)
  have h5 := append_block (P := Tryz.prog) _ B 28 ty 9 i0 (.string ⟨#[]⟩) 1 16 Tryz.underlying28 hi hz0 hz1 hz2 v M.length _ hrow ⟨w.heap.size, 0, none⟩ 1 1 [strB y] rfl (cells_one12 _ _ _) h1 (by decide) (by unfold maxLen; omega) (by omega) v' w' hr
  refine ⟨v', w', hr, by unfold NR; rw [List.length_append, List.map_append]; exact h2, h3, ?_⟩
  rcases h5 with h5 | h5
  · exact .inl h5
  · exact .inr ⟨_, h5, Nat.le_refl _⟩

def seeR (a : Au) (h : List UInt8) : List (List UInt8) := keepR h a.see ++ (if sameX a.heading h = true then [] else [a.heading])
theorem same_dec {x s : List UInt8} (h : normX x ≠ []) : sameX x s = decide (normX x = normX s) := by
  unfold sameX
  rw [decide_eq_true h, Bool.true_and]
theorem ren_eq (L : List Au) (id : Int) (h : List UInt8) (hr : rightA L = 0) (a : Au) (hg : getA L id = some a) :
    renA L id h = checkA (L.set (plcA L id) { a with heading := h, see := seeR a h }) ∧ (∀ x ∈ a.see, validT x = true ∧ x.length ≤ 1000) ∧ validT a.heading = true ∧ a.heading.length ≤ 1000 ∧ a.see.length ≤ 8 ∧ plcA L id < L.length ∧ L.getD (plcA L id) au0 = a := by
  have hasc := right_asc L hr
  obtain ⟨hk1, hk2, hk3⟩ := get_plc_eq L id hasc a hg
  have hmem := (get_some L id a hg).1
  obtain ⟨_, o1, _, _, _⟩ := right_out L hr
  obtain ⟨_, o2, _⟩ := ones_out L none o1
  have hsh := o2 a hmem
  obtain ⟨hb, hv⟩ := right_small L hr
  have hno := shape_norm a hsh.1
  obtain ⟨s1, s2⟩ := shape_small a hsh.1
  refine ⟨?_, fun x hx => ⟨(s2 x (List.mem_cons_of_mem _ hx)).1, Nat.le_trans (s2 x (List.mem_cons_of_mem _ hx)).2 (by decide)⟩, (s2 a.heading (List.mem_cons_self ..)).1, Nat.le_trans (s2 a.heading (List.mem_cons_self ..)).2 (by decide), by omega, hk1, hk2⟩
  unfold renA
  rw [hg]
  show checkA (withA L _) = _
  rw [with_plc L _ hasc (by show plcA L a.id < _; rw [hk3]; exact hk1) (by show (L.getD (plcA L a.id) au0).id = a.id; rw [hk3, hk2, hk3])]
  show checkA (L.set (plcA L a.id) _) = _
  rw [hk3]
  have e1 : (a.see.filter fun s => decide (normX s ≠ normX h)) = keepR h a.see := by
    unfold keepR
    refine List.filter_congr fun s hs => ?_
    rw [same_dec (hno s (List.mem_cons_of_mem _ hs)), decide_not]
  have e2 : (if normX a.heading ≠ normX h then [a.heading] else []) = (if sameX a.heading h = true then ([] : List (List UInt8)) else [a.heading]) := by
    rw [same_dec (hno a.heading (List.mem_cons_self ..))]
    by_cases hq : normX a.heading = normX h
    · rw [if_neg (fun f => f hq), if_pos (decide_eq_true hq)]
    · rw [if_pos hq, if_neg (by rw [decide_eq_false hq]; decide)]
  rw [e1, e2]
  rfl
theorem keepR_len (s : List UInt8) (L : List (List UInt8)) : (keepR s L).length ≤ L.length := List.length_filter_le _ _

set_option maxHeartbeats 32000000 in
set_option maxRecDepth 100000 in
theorem rename_any (v : Value) (L : List Au) (id : Int) (h : List UInt8) (w0 w : World) (hE : Env w) (hb0 : Below w0.heap.size w0 w) (hv : AL v L w0) (hb : bnd L) (hr : rightA L = 0) (hh : validT h = true) (hhl : h.length ≤ 1000) :
    Calls Tryz.prog 18 #[v, .int .i64 id, .string (S h)] w fun e w' => ∃ v', e = .returned (.tuple #[v', .int .i64 (renA L id h).2]) ∧ (∀ W, Kp w0 w w' W → AL v' (renA L id h).1 W) ∧ Below w.heap.size w w' := by
  obtain ⟨Q, hQ⟩ : ∃ Q, (fun (e : Ending) (w' : World) => ∃ v', e = .returned (.tuple #[v', .int .i64 (renA L id h).2]) ∧ (∀ W, Kp w0 w w' W → AL v' (renA L id h).1 W) ∧ Below w.heap.size w w') = Q := ⟨_, rfl⟩
  rw [hQ]
  have HQ : RowKit.Hid (∀ v' r W, (renA L id h).2 = r → (∀ V, Kp w0 w W V → AL v' (renA L id h).1 V) → Below w.heap.size w W → Q (.returned (.tuple #[v', .int .i64 r])) W) := by
    rw [← hQ]
    exact fun v' r W h0 h1 h2 => ⟨v', by rw [h0], h1, h2⟩
  obtain ⟨hbl, hbz⟩ := bnd_len hb
  have hasc := right_asc L hr
  obtain ⟨W0, hW0⟩ : ∃ W, w.alloc (.cells #[.string (S h)] 9) = W := ⟨_, rfl⟩
  have b0 : Below w.heap.size w W0 := by rw [← hW0]; exact (Below.refl _ _).alloc (Nat.le_refl _) _
  have hR0 : W0.heap[w.heap.size]? = some (.cells #[.string (S h)] 9 (0, 0)) := by rw [← hW0]; exact heap_alloc_new w _
  have hlt0 : w.heap.size < W0.heap.size := by rw [← hW0]; simp
  have HW0 := Lib.hid hW0
  have HB0 := Lib.hid b0
  have hvw := hv.after hb0
  have cP := Lib.hid (place_any v L id W0 (hvw.after b0) hasc (by omega))
  have cA := Lib.hid (fun (W : World) (h : Below W0.heap.size W0 W) => cloneAll_any v L W ((hvw.after b0).after h) hbl hbz)
  have cC := Lib.hid (fun (v : Value) (M : List Au) (W : World) (h : Below w.heap.size w W) (hv : AL v M W) (hb : bnd M) (v' : Value) (hv' : (if rightA M = 0 then v else nilV) = v') => checked_any v M W (hE.after h) hv hb v' hv')
  have HEnv := Lib.hid (fun (W : World) (h : Below w.heap.size w W) => hE.after h)
  obtain ⟨va, vc, rfl, hc1, hc2⟩ := hv.length
  cases hg : getA L id with
  | none =>
    have hs : renA L id h = ([], 9) := by unfold renA; rw [hg]
    rw [hg] at cP
    rw [hs] at HQ
    have hno := Lib.hid (fun W h => HQ.out (.slice none 0 0) 9 W rfl (fun V _ => AL.nil V) h)
    have hb0 : (Option.isSome (none : Option Au)) = false := rfl
    rw [hb0] at cP
    clear hQ HQ hs hg hE hv hb hr hasc cA cC hbl hbz hb0 hvw hW0 b0 hR0 hh
    generalize plcA L id = k at *
    generalize L.length = n at *
    go_enter Tryz.func18, Tryz.ntmps18
    go_upto_region 1 with fail
    rw [HW0.out]
    go_wp2_with fail
    refine cP.out.mono ?_
    rintro e w1 ⟨rfl, hb1⟩
    have hn := hno.out w1 (HB0.out.trans (hb1.mono HB0.out.size))
    clear hb1
    go_wp2
    first | exact hn | (go_ret2; exact hn)
  | some a =>
    obtain ⟨hs, hsv, hhv, hhl2, hsl, hk1, hk2⟩ := ren_eq L id h hr a hg
    have hmem := (get_some L id a hg).1
    have hbs : bnd (L.set (plcA L id) { a with heading := h, see := seeR a h }) := by
      refine bnd_set hb _ _ ⟨?_, (hb.2 a hmem).2.1, fun x hx => ?_⟩
      · show (seeR a h).length ≤ 100
        unfold seeR
        rw [List.length_append]
        have := keepR_len h a.see
        split
        · rw [List.length_nil]; omega
        · rw [List.length_singleton]; omega
      · rcases List.mem_cons.1 hx with rfl | hx
        · exact hhl
        · have hx : x ∈ seeR a h := hx
          unfold seeR at hx
          rcases List.mem_append.1 hx with hx | hx
          · exact (hsv x (List.mem_filter.1 hx).1).2
          · split at hx
            · cases hx
            · rw [List.mem_singleton.1 hx]; exact hhl2
    rw [hg] at cP
    have hb0 : (some a).isSome = true := rfl
    rw [hb0] at cP
    rw [hs] at HQ
    obtain ⟨k, hk⟩ : ∃ k, plcA L id = k := ⟨_, rfl⟩
    rw [hk] at cP hk1 hk2 hbs HQ
    have HBs := Lib.hid hbs
    have HK2 := Lib.hid hk2
    have cD := Lib.hid (fun (B : Nat) (v : Value) (W : World) (hW : Below w.heap.size w W) (hB : w.heap.size ≤ B) (hBW : B ≤ W.heap.size) (hown : NR B v a.see W) (hlt : w.heap.size < W.heap.size) (hbc : W.cell? ⟨w.heap.size, 0, none⟩ = some (.string (S h))) (hne : v.ownBlock ≠ some w.heap.size) =>
      deleteR_any B a.see v h w.heap.size W (hE.after hW) hown (fun x hx => ⟨(hsv x hx).1, Nat.le_trans (hsv x hx).2 (by decide)⟩) hh (by omega) hlt hbc hne (by omega) (fun V hV => hE.after (hW.grown hV hW.size (fun j hj => Nat.le_trans hB (hown.lt j hj).1))))
    have cS := Lib.hid (fun (W : World) (hW : Below w.heap.size w W) => pSame12_any a.heading h hhv (by omega) hh (by omega) W (hE.after hW))
    have HKL : RowKit.Hid ((keepR h a.see).length ≤ 100000) := Nat.le_trans (keepR_len h a.see) (by omega)
    obtain ⟨n, hn⟩ : ∃ n, L.length = n := ⟨_, rfl⟩
    have HN := Lib.hid hn
    rw [hn] at cP cA hk1 ⊢
    have i1 : (0 : Int) ≤ (k : Int) := by omega
    have i2 : (k : Int) < (n : Int) := by omega
    have HR0 := Lib.hid hR0
    cases hq : sameX a.heading h with
    | true =>
      have hse : seeR a h = keepR h a.see := by unfold seeR; rw [if_pos hq, List.append_nil]
      rw [hse] at HQ HBs
      rw [hq] at cS
      clear hQ hs hg hE hv hb hr hasc hbl hbz hb0 hbs hk hk2 hn hmem hvw hW0 b0 hsv hhv hhl2 hh hq hse hR0
      go_enter Tryz.func18, Tryz.ntmps18
      go_upto_region 1 with fail
      rw [HW0.out]
      go_wp2_with fail
      refine cP.out.mono ?_
      rintro e w1 ⟨rfl, hb1⟩
      have HB1 := Lib.hid hb1
      have cA1 := Lib.hid (cA.out w1 hb1)
      clear hb1 cP
      go_wp2_with fail
      refine cA1.out.mono ?_
      rintro e w2 ⟨v2, F, rfl, hF2, hM2, hb2⟩
      have hBw1 : W0.heap.size ≤ w1.heap.size := HB1.out.size
      have HB02 := Lib.hid (HB1.out.trans (hb2.mono HB1.out.size))
      have HB2 := Lib.hid (HB0.out.trans (HB02.out.mono HB0.out.size))
      have HBB2 := Lib.hid hb2
      have HBx2 := Lib.hid (show w2.heap[w.heap.size]? = some (.cells #[.string (S h)] 9 (0, 0)) from (HB02.out.block _ hlt0).trans HR0.out)
      have hl2 : F.length = n := by rw [← HN.out, ← hM2, List.length_map]
      obtain ⟨x, hx, hxa⟩ := ent_at hM2 k (by rw [HN.out]; exact hk1)
      rw [HK2.out] at hxa
      obtain ⟨g2, cap2, hv2, hg2, hgl2, hlc2, -, ⟨d0, d1, d2, d3, d4⟩, hfz⟩ := hF2.open k x hx
      subst hv2
      have hbc2 : w2.heap[w.heap.size]? = some (.cells #[.string (S h)] 9 (0, 0)) := (HB02.out.block _ hlt0).trans HR0.out
      have hbcc : w2.cell? ⟨w.heap.size, 0, none⟩ = some (.string (S h)) := by rw [Lib.cell_of_heap hbc2]; rfl
      have hxs := hF2.see x (List.mem_of_getElem? hx)
      rw [hxa] at hxs
      have hown2 : x.2.1.ownBlock ≠ some w.heap.size := fun e => by have := (hxs.lt _ e).1; omega
      have cD2 := Lib.hid (cD.out w1.heap.size x.2.1 w2 HB2.out (by omega) hb2.size hxs (Nat.lt_of_lt_of_le hlt0 HB02.out.size) hbcc hown2)
      have HF2 := Lib.hid hF2
      have HM2 := Lib.hid hM2
      have HX := Lib.hid hx
      have HXa := Lib.hid hxa
      have HL2 := Lib.hid hl2
      have HG2 := Lib.hid hg2
      rw [hl2]
      obtain ⟨xs, hxs'⟩ : ∃ q, x.2.1 = q := ⟨_, rfl⟩
      have HXs := Lib.hid hxs'
      rw [hxs'] at d3 cD2 hxs hown2
      obtain ⟨sa, sc, rfl, -, -⟩ := own_form13 hxs
      have hgne : g2 ≠ w.heap.size := by omega
      clear hF2 hM2 hb2 hx hxa hg2 cA cA1 hxs hbc2 hbcc hxs' hfz d0 d1 d2 d4
      go_wp2_with fail
      refine cD2.out.mono ?_
      rintro e w3 ⟨s3, rfl, hs3, hg3, ho3⟩
      have hgr := HF2.out.row.kept hg3 (by rw [← HXs.out]; exact own_types HF2.out.row (HF2.out.see x (List.mem_of_getElem? HX.out)) (fun e => ne_string e.symm))
      obtain ⟨-, -, -, -, hfz, hsome⟩ := own_facts13 hgr
      have f3 := hfz (k * 5 + 3)
      obtain ⟨z3, hz3⟩ := Option.isSome_iff_exists.1 (hsome (k * 5 + 3) (by omega))
      have hP := HF2.out.putSee k x HX.out (by rw [HXs.out]; exact hg3) s3 (keepR h a.see) hs3 (.inr (.inl (by rw [HXs.out]; exact ho3)))
      obtain ⟨a3, c3, hs3v, -, -⟩ := own_form13 hs3
      have hbx3 : w3.heap[w.heap.size]? = some (.cells #[.string (S h)] 9 (0, 0)) := (hg3.block _ (Nat.lt_of_lt_of_le hlt0 HB02.out.size) (fun e => hown2 e.symm)).trans HBx2.out
      obtain ⟨w4, hw4⟩ : ∃ W, w3.setCell ⟨g2, k * 5 + 3, none⟩ s3 = W := ⟨_, rfl⟩
      rw [hw4] at hP
      have hbx4 : w4.heap[w.heap.size]? = some (.cells #[.string (S h)] 9 (0, 0)) := by
        rw [← hw4, Below.heap_setCell w3 _ s3 w.heap.size (Ne.symm hgne)]
        exact hbx3
      have hB4 : Below w.heap.size w w4 := by
        rw [← hw4]
        exact (HB2.out.grown hg3 HB2.out.size (fun j hj => by have := (HF2.out.see x (List.mem_of_getElem? HX.out)).lt j (by rw [HXs.out]; exact hj); have := this.1; omega)).setCell (p := ⟨g2, k * 5 + 3, none⟩) (by show w.heap.size ≤ g2; have := HG2.out; omega) _
      have hlt4 : w.heap.size < w4.heap.size := by
        have := (Array.getElem?_eq_some_iff.1 hbx4).1
        exact this
      obtain ⟨F4, hF4e⟩ : ∃ G, F.set k ({ x.1 with see := keepR h a.see }, s3, x.2.2) = G := ⟨_, rfl⟩
      have hF4k : F4[k]? = some ({ a with see := keepR h a.see }, s3, x.2.2) := by
        rw [← hF4e, ← HXa.out, List.getElem?_set_self (by omega)]
      have hF4l : F4.length = F.length := by rw [← hF4e, List.length_set]
      have hF4m : F4.map (·.1) = L.set k { a with see := keepR h a.see } := by rw [← hF4e, set_map F k _ L HM2.out, HXa.out]
      rw [hF4e] at hP
      rw [← hF4l] at hP
      have HF4 := Lib.hid hP
      have HK4 := Lib.hid hF4k
      have HM4 := Lib.hid hF4m
      have HL4 := Lib.hid (hF4l.trans hl2)
      have HBx4 := Lib.hid hbx4
      have HB4 := Lib.hid hB4
      have HW4 := Lib.hid hw4
      have cS4 := Lib.hid (cS.out w4.drew hB4.drew)
      obtain ⟨gq, capq, eq4, -, -, -, -, ⟨-, -, e2, e3, -⟩, -⟩ := hP.open k _ hF4k
      obtain rfl : g2 = gq := by simpa using (Value.slice.inj eq4).1
      have ebx : w4.cell? ⟨w.heap.size, 0, none⟩ = some (.string (S h)) := by rw [Lib.cell_of_heap hbx4]; rfl
      subst hs3v
      clear hgr hfz hsome hP hbx3 hw4 hbx4 hB4 hF4k hF4l hF4m hF4e hs3 hg3 ho3 cS HBx2 hown2 cD2 d3 HF2 HM2 HX HXa HXs hl2 HL2 hgl2 hlc2 eq4
      go_upto_region 7 with fail
      rw [HW4.out]
      go_region_law (go_simp; go_at_call 50; refine cS4.out.mono ?_; rintro e w5 ⟨rfl, hb5⟩; have hb45 : Below w4.heap.size w4 w5 := ((Below.refl w4.heap.size w4).drew).trans hb5; have HF5 := Lib.hid (HF4.out.after hb45); have HB5 := Lib.hid (HB4.out.trans (hb45.mono HB4.out.size)); have HBx5 := Lib.hid ((hb45.block _ hlt4).trans HBx4.out); clear hb5 hb45 e2 e3 ebx HF4 HB4 HBx4 f3 hz3)
      all_goals
        obtain ⟨gq, capq, eq5, -, -, -, -, ⟨-, -, e2, -, -⟩, hfz⟩ := HF5.out.open k _ HK4.out
        obtain rfl : g2 = gq := by simpa using (Value.slice.inj eq5).1
        have f2 := hfz (k * 5 + 2)
        have ebx : w5.cell? ⟨w.heap.size, 0, none⟩ = some (.string (S h)) := by rw [Lib.cell_of_heap HBx5.out]; rfl
        have hP := HF5.out.putHead k _ HK4.out h
        obtain ⟨w6, hw6⟩ : ∃ W, w5.setCell ⟨g2, k * 5 + 2, none⟩ (.string (S h)) = W := ⟨_, rfl⟩
        rw [hw6] at hP
        have hB6 : Below w.heap.size w w6 := by
          rw [← hw6]
          exact HB5.out.setCell (p := ⟨g2, k * 5 + 2, none⟩) (by show w.heap.size ≤ g2; have := HG2.out; omega) _
        obtain ⟨M, hM⟩ : ∃ M, L.set k { a with heading := h, see := keepR h a.see } = M := ⟨_, rfl⟩
        rw [hM] at HQ HBs
        obtain ⟨F6, hF6⟩ : ∃ G, F4.set k ({ ({ a with see := keepR h a.see } : Au) with heading := h }, .slice a3 (keepR h a.see).length c3, x.2.2) = G := ⟨_, rfl⟩
        have hM6 : F6.map (·.1) = M := by rw [← hF6, set_map F4 k _ _ HM4.out, List.set_set, ← hM]
        have hP : FR w1.heap.size (.slice (some ⟨g2, 0, none⟩) F4.length cap2) F6 w6 := by rw [← hF6]; exact hP
        rw [HL4.out] at hP
        obtain ⟨vx, hvx⟩ : ∃ q, (if rightA M = 0 then (.slice (some ⟨g2, 0, none⟩) n cap2) else nilV) = q := ⟨_, rfl⟩
        have hal := hP.al
        rw [hM6] at hal
        have cC2 := Lib.hid (cC.out _ M w6 hB6 hal HBs.out vx hvx)
        have hfin : ∀ W, Below w6.heap.size w6 W → Q (.returned (.tuple #[vx, .int .i64 (checkA M).2])) W := by
          intro W hW
          refine HQ.out vx _ W rfl (fun V hV => ?_) (hB6.trans (hW.mono hB6.size))
          have := checked_al (((hP.base (B := w.heap.size) (by omega)).after hW).kept hV.2.1) (v' := vx) (by rw [hM6]; exact hvx)
          rwa [hM6] at this
        have HFin := Lib.hid hfin
        have HW6 := Lib.hid hw6
        clear hP hM6 hF6 hvx hal hfin hw6 hB6 hfz eq5 HF5 HB5 HBx5 HM4 HK4 HQ HBs hM
        go_upto_region 10 with fail
        rw [HW6.out]
        go_wp2_with fail
        refine cC2.out.mono ?_
        rintro e w7 ⟨rfl, hb7⟩
        have hno := HFin.out w7 hb7
        clear hb7
        go_wp2
        first | exact hno | (go_ret2; exact hno)
    | false =>
      have hse : seeR a h = keepR h a.see ++ [a.heading] := by unfold seeR; rw [if_neg (by rw [hq]; decide)]
      rw [hse] at HQ HBs
      rw [hq] at cS
      clear hQ hs hg hE hv hb hr hasc hbl hbz hb0 hbs hk hk2 hn hmem hvw hW0 b0 hsv hhv hhl2 hh hq hse hR0
      go_enter Tryz.func18, Tryz.ntmps18
      go_upto_region 1 with fail
      rw [HW0.out]
      go_wp2_with fail
      refine cP.out.mono ?_
      rintro e w1 ⟨rfl, hb1⟩
      have HB1 := Lib.hid hb1
      have cA1 := Lib.hid (cA.out w1 hb1)
      clear hb1 cP
      go_wp2_with fail
      refine cA1.out.mono ?_
      rintro e w2 ⟨v2, F, rfl, hF2, hM2, hb2⟩
      have hBw1 : W0.heap.size ≤ w1.heap.size := HB1.out.size
      have HB02 := Lib.hid (HB1.out.trans (hb2.mono HB1.out.size))
      have HB2 := Lib.hid (HB0.out.trans (HB02.out.mono HB0.out.size))
      have HBB2 := Lib.hid hb2
      have HBx2 := Lib.hid (show w2.heap[w.heap.size]? = some (.cells #[.string (S h)] 9 (0, 0)) from (HB02.out.block _ hlt0).trans HR0.out)
      have hl2 : F.length = n := by rw [← HN.out, ← hM2, List.length_map]
      obtain ⟨x, hx, hxa⟩ := ent_at hM2 k (by rw [HN.out]; exact hk1)
      rw [HK2.out] at hxa
      obtain ⟨g2, cap2, hv2, hg2, hgl2, hlc2, -, ⟨d0, d1, d2, d3, d4⟩, hfz⟩ := hF2.open k x hx
      subst hv2
      have hbc2 : w2.heap[w.heap.size]? = some (.cells #[.string (S h)] 9 (0, 0)) := (HB02.out.block _ hlt0).trans HR0.out
      have hbcc : w2.cell? ⟨w.heap.size, 0, none⟩ = some (.string (S h)) := by rw [Lib.cell_of_heap hbc2]; rfl
      have hxs := hF2.see x (List.mem_of_getElem? hx)
      rw [hxa] at hxs
      have hown2 : x.2.1.ownBlock ≠ some w.heap.size := fun e => by have := (hxs.lt _ e).1; omega
      have cD2 := Lib.hid (cD.out w1.heap.size x.2.1 w2 HB2.out (by omega) hb2.size hxs (Nat.lt_of_lt_of_le hlt0 HB02.out.size) hbcc hown2)
      have HF2 := Lib.hid hF2
      have HM2 := Lib.hid hM2
      have HX := Lib.hid hx
      have HXa := Lib.hid hxa
      have HL2 := Lib.hid hl2
      have HG2 := Lib.hid hg2
      rw [hl2]
      obtain ⟨xs, hxs'⟩ : ∃ q, x.2.1 = q := ⟨_, rfl⟩
      have HXs := Lib.hid hxs'
      rw [hxs'] at d3 cD2 hxs hown2
      obtain ⟨sa, sc, rfl, -, -⟩ := own_form13 hxs
      have hgne : g2 ≠ w.heap.size := by omega
      clear hF2 hM2 hb2 hx hxa hg2 cA cA1 hxs hbc2 hbcc hxs' hfz d0 d1 d2 d4
      go_wp2_with fail
      refine cD2.out.mono ?_
      rintro e w3 ⟨s3, rfl, hs3, hg3, ho3⟩
      have hgr := HF2.out.row.kept hg3 (by rw [← HXs.out]; exact own_types HF2.out.row (HF2.out.see x (List.mem_of_getElem? HX.out)) (fun e => ne_string e.symm))
      obtain ⟨-, -, -, -, hfz, hsome⟩ := own_facts13 hgr
      have f3 := hfz (k * 5 + 3)
      obtain ⟨z3, hz3⟩ := Option.isSome_iff_exists.1 (hsome (k * 5 + 3) (by omega))
      have hP := HF2.out.putSee k x HX.out (by rw [HXs.out]; exact hg3) s3 (keepR h a.see) hs3 (.inr (.inl (by rw [HXs.out]; exact ho3)))
      obtain ⟨a3, c3, hs3v, -, -⟩ := own_form13 hs3
      have hbx3 : w3.heap[w.heap.size]? = some (.cells #[.string (S h)] 9 (0, 0)) := (hg3.block _ (Nat.lt_of_lt_of_le hlt0 HB02.out.size) (fun e => hown2 e.symm)).trans HBx2.out
      obtain ⟨w4, hw4⟩ : ∃ W, w3.setCell ⟨g2, k * 5 + 3, none⟩ s3 = W := ⟨_, rfl⟩
      rw [hw4] at hP
      have hbx4 : w4.heap[w.heap.size]? = some (.cells #[.string (S h)] 9 (0, 0)) := by
        rw [← hw4, Below.heap_setCell w3 _ s3 w.heap.size (Ne.symm hgne)]
        exact hbx3
      have hB4 : Below w.heap.size w w4 := by
        rw [← hw4]
        exact (HB2.out.grown hg3 HB2.out.size (fun j hj => by have := (HF2.out.see x (List.mem_of_getElem? HX.out)).lt j (by rw [HXs.out]; exact hj); have := this.1; omega)).setCell (p := ⟨g2, k * 5 + 3, none⟩) (by show w.heap.size ≤ g2; have := HG2.out; omega) _
      have hlt4 : w.heap.size < w4.heap.size := by
        have := (Array.getElem?_eq_some_iff.1 hbx4).1
        exact this
      obtain ⟨F4, hF4e⟩ : ∃ G, F.set k ({ x.1 with see := keepR h a.see }, s3, x.2.2) = G := ⟨_, rfl⟩
      have hF4k : F4[k]? = some ({ a with see := keepR h a.see }, s3, x.2.2) := by
        rw [← hF4e, ← HXa.out, List.getElem?_set_self (by omega)]
      have hF4l : F4.length = F.length := by rw [← hF4e, List.length_set]
      have hF4m : F4.map (·.1) = L.set k { a with see := keepR h a.see } := by rw [← hF4e, set_map F k _ L HM2.out, HXa.out]
      rw [hF4e] at hP
      rw [← hF4l] at hP
      have HF4 := Lib.hid hP
      have HK4 := Lib.hid hF4k
      have HM4 := Lib.hid hF4m
      have HL4 := Lib.hid (hF4l.trans hl2)
      have HBx4 := Lib.hid hbx4
      have HB4 := Lib.hid hB4
      have HW4 := Lib.hid hw4
      have cS4 := Lib.hid (cS.out w4.drew hB4.drew)
      obtain ⟨gq, capq, eq4, -, -, -, -, ⟨-, -, e2, e3, -⟩, -⟩ := hP.open k _ hF4k
      obtain rfl : g2 = gq := by simpa using (Value.slice.inj eq4).1
      have ebx : w4.cell? ⟨w.heap.size, 0, none⟩ = some (.string (S h)) := by rw [Lib.cell_of_heap hbx4]; rfl
      subst hs3v
      clear hgr hfz hsome hP hbx3 hw4 hbx4 hB4 hF4k hF4l hF4m hF4e hs3 hg3 ho3 cS HBx2 hown2 cD2 d3 HF2 HM2 HX HXa HXs hl2 HL2 hgl2 hlc2 eq4
      go_upto_region 7 with fail
      rw [HW4.out]
      go_region_law (go_simp; go_at_call 50; refine cS4.out.mono ?_; rintro e w5 ⟨rfl, hb5⟩; have hb45 : Below w4.heap.size w4 w5 := ((Below.refl w4.heap.size w4).drew).trans hb5; have HF5 := Lib.hid (HF4.out.after hb45); have HB5 := Lib.hid (HB4.out.trans (hb45.mono HB4.out.size)); have HBx5 := Lib.hid ((hb45.block _ hlt4).trans HBx4.out); clear hb5 hb45 e2 e3 ebx HF4 HB4 HBx4 f3 hz3)
      all_goals
        obtain ⟨gq, capq, eq5, -, hlg5, -, -, ⟨-, -, e2, e3, -⟩, -⟩ := HF5.out.open k _ HK4.out
        obtain rfl : g2 = gq := by simpa using (Value.slice.inj eq5).1
        have hnr5 : NR w1.heap.size (.slice a3 (keepR h a.see).length c3) (keepR h a.see) w5.drew := (HF5.out.see _ (List.mem_of_getElem? HK4.out)).after (Below.refl w5.heap.size w5).drew
        obtain ⟨v8, w8, hrun, hn8, hg8, ho8⟩ := append_one13 w1.heap.size _ (keepR h a.see) a.heading w5.drew hnr5 HKL.out (by
          show w1.heap.size ≤ w5.heap.size
          have h1 := HB5.out.size
          have h2 := (HF5.out.row.lt g2 rfl).1
          omega) 28
        have b5 : Below w5.heap.size w5 (w5.drew.alloc (.cells #[.string (S a.heading)] 9)) := ((Below.refl w5.heap.size w5).drew).alloc (Nat.le_refl _) _
        have hFa := HF5.out.after b5
        have e2' : (w5.alloc (.cells #[.string (S a.heading)] 9)).cell? ⟨g2, k * 5 + 2, none⟩ = some (.string (S a.heading)) := (b5.cell (p := ⟨g2, k * 5 + 2, none⟩) hlg5).trans e2
        have e3' : (w5.alloc (.cells #[.string (S a.heading)] 9)).cell? ⟨g2, k * 5 + 3, none⟩ = some (.slice a3 (keepR h a.see).length c3) := (b5.cell (p := ⟨g2, k * 5 + 3, none⟩) hlg5).trans e3
        have hgr := hFa.row.kept hg8 (own_types hFa.row (hFa.see _ (List.mem_of_getElem? HK4.out)) (fun e => ne_string e.symm))
        obtain ⟨-, -, -, -, hfz, hsome⟩ := own_facts13 hgr
        have f3 := hfz (k * 5 + 3)
        obtain ⟨z3, hz3⟩ := Option.isSome_iff_exists.1 (hsome (k * 5 + 3) (by have := HL4.out; omega))
        have hP := hFa.putSee k _ HK4.out hg8 v8 (keepR h a.see ++ [a.heading]) hn8 (by
          rcases ho8 with h8 | h8
          · exact .inr (.inl h8)
          · exact .inr (.inr h8))
        have hBa := HB5.out.trans (b5.mono HB5.out.size)
        have hB8 : Below w.heap.size w w8 := hBa.grown hg8 hBa.size (fun j hj => by
          have := (hFa.see _ (List.mem_of_getElem? HK4.out)).lt j hj
          have := this.1
          omega)
        have hltb : w.heap.size < (w5.drew.alloc (.cells #[.string (S a.heading)] 9)).heap.size := Nat.lt_of_lt_of_le (Array.getElem?_eq_some_iff.1 HBx5.out).1 b5.size
        have hbx8 : w8.heap[w.heap.size]? = some (.cells #[.string (S h)] 9 (0, 0)) := (hg8.block _ hltb (fun e => by
          have := (hFa.see _ (List.mem_of_getElem? HK4.out)).lt _ e.symm
          have := this.1
          omega)).trans ((b5.block _ (Array.getElem?_eq_some_iff.1 HBx5.out).1).trans HBx5.out)
        obtain ⟨a8, c8, hv8, -, -⟩ := own_form13 hn8
        rw [List.length_append, List.length_singleton] at hv8
        obtain ⟨w9, hw9⟩ : ∃ W, w8.setCell ⟨g2, k * 5 + 3, none⟩ v8 = W := ⟨_, rfl⟩
        rw [hw9] at hP
        have hbx9 : w9.heap[w.heap.size]? = some (.cells #[.string (S h)] 9 (0, 0)) := by
          rw [← hw9, Below.heap_setCell w8 _ v8 w.heap.size (Ne.symm hgne)]
          exact hbx8
        have hB9 : Below w.heap.size w w9 := by
          rw [← hw9]
          exact hB8.setCell (p := ⟨g2, k * 5 + 3, none⟩) (by show w.heap.size ≤ g2; have := HG2.out; omega) _
        subst hv8
        obtain ⟨F9, hF9e⟩ : ∃ G, F4.set k ({ ({ a with see := keepR h a.see } : Au) with see := keepR h a.see ++ [a.heading] }, .slice a8 ((keepR h a.see).length + 1) c8, x.2.2) = G := ⟨_, rfl⟩
        have hF9k : F9[k]? = some ({ a with see := keepR h a.see ++ [a.heading] }, .slice a8 ((keepR h a.see).length + 1) c8, x.2.2) := by
          rw [← hF9e, List.getElem?_set_self (by have := HL4.out; omega)]
        have hF9l : F9.length = F4.length := by rw [← hF9e, List.length_set]
        have hF9m : F9.map (·.1) = L.set k { a with see := keepR h a.see ++ [a.heading] } := by rw [← hF9e, set_map F4 k _ _ HM4.out, List.set_set]
        have hP : FR w1.heap.size (.slice (some ⟨g2, 0, none⟩) F4.length cap2) F9 w9 := by rw [← hF9e]; exact hP
        rw [← hF9l] at hP
        have HF9 := Lib.hid hP
        have HK9 := Lib.hid hF9k
        have HM9 := Lib.hid hF9m
        have HL9 := Lib.hid (hF9l.trans HL4.out)
        have HBx9 := Lib.hid hbx9
        have HB9 := Lib.hid hB9
        have HW9 := Lib.hid hw9
        have Hrun := Lib.hid hrun
        clear hrun hgr hfz hsome hP hbx8 hbx9 hltb hB8 hBa hFa b5 hnr5 hn8 hg8 ho8 hw9 hB9 hF9k hF9l hF9m hF9e eq5 HF5 HB5 HBx5 HM4 HK4 hlg5
        go_upto_region 8 with fail
        go_region_law (refine step_append_run rfl (.tmp 45) (.tmp 50) 28 28 rfl _ _ (by simp [Act.eval]) (by simp [Act.eval]) Hrun.out ?_)
        all_goals
          rw [HW9.out]
          clear e2 e3 e2' e3' f3 hz3
          obtain ⟨gq, capq, eq9, -, -, -, -, ⟨-, -, e2, -, -⟩, hfz⟩ := HF9.out.open k _ HK9.out
          obtain rfl : g2 = gq := by simpa using (Value.slice.inj eq9).1
          have f2 := hfz (k * 5 + 2)
          have ebx : w9.cell? ⟨w.heap.size, 0, none⟩ = some (.string (S h)) := by rw [Lib.cell_of_heap HBx9.out]; rfl
          have hP := HF9.out.putHead k _ HK9.out h
          obtain ⟨w6, hw6⟩ : ∃ W, w9.setCell ⟨g2, k * 5 + 2, none⟩ (.string (S h)) = W := ⟨_, rfl⟩
          rw [hw6] at hP
          have hB6 : Below w.heap.size w w6 := by
            rw [← hw6]
            exact HB9.out.setCell (p := ⟨g2, k * 5 + 2, none⟩) (by show w.heap.size ≤ g2; have := HG2.out; omega) _
          obtain ⟨M, hM⟩ : ∃ M, L.set k { a with heading := h, see := keepR h a.see ++ [a.heading] } = M := ⟨_, rfl⟩
          rw [hM] at HQ HBs
          obtain ⟨F6, hF6⟩ : ∃ G, F9.set k ({ ({ a with see := keepR h a.see ++ [a.heading] } : Au) with heading := h }, .slice a8 ((keepR h a.see).length + 1) c8, x.2.2) = G := ⟨_, rfl⟩
          have hM6 : F6.map (·.1) = M := by rw [← hF6, set_map F9 k _ _ HM9.out, List.set_set, ← hM]
          have hP : FR w1.heap.size (.slice (some ⟨g2, 0, none⟩) F9.length cap2) F6 w6 := by rw [← hF6]; exact hP
          rw [HL9.out] at hP
          obtain ⟨vx, hvx⟩ : ∃ q, (if rightA M = 0 then (.slice (some ⟨g2, 0, none⟩) n cap2) else nilV) = q := ⟨_, rfl⟩
          have hal := hP.al
          rw [hM6] at hal
          have cC2 := Lib.hid (cC.out _ M w6 hB6 hal HBs.out vx hvx)
          have hfin : ∀ W, Below w6.heap.size w6 W → Q (.returned (.tuple #[vx, .int .i64 (checkA M).2])) W := by
            intro W hW
            refine HQ.out vx _ W rfl (fun V hV => ?_) (hB6.trans (hW.mono hB6.size))
            have := checked_al (((hP.base (B := w.heap.size) (by omega)).after hW).kept hV.2.1) (v' := vx) (by rw [hM6]; exact hvx)
            rwa [hM6] at this
          have HFin := Lib.hid hfin
          have HW6 := Lib.hid hw6
          clear hP hM6 hF6 hvx hal hfin hw6 hB6 hfz eq9 HF9 HB9 HBx9 HM9 HK9 HQ HBs hM
          go_upto_region 10 with fail
          rw [HW6.out]
          go_wp2_with fail
          refine cC2.out.mono ?_
          rintro e w7 ⟨rfl, hb7⟩
          have hno := HFin.out w7 hb7
          clear hb7
          go_wp2
          first | exact hno | (go_ret2; exact hno)
end

end Go.Proofs.YtmcolapcmjdoeaaGreatDoor
