/- Merged: Rh11. -/
import Derived.Test.YtnfallkeicehiaaDoorQ22
import Derived.Test.YtnfallkeicehiaaDoorQ24
import Derived.Test.YtnfallkeicehiaaDoorQ17
import Derived.Deep.RegionLaw
import Derived.RegionTactic
namespace Go.Proofs.YtnfallkeicehiaaDoor

section
open Go.RowKit Go.PlainAid
theorem kindsL_at (k : Int) (h1 : 1 ≤ k) (h4 : k ≤ 4) : kindsL.getD (k - 1).toNat [] = kindW k := by
  obtain rfl | rfl | rfl | rfl : k = 1 ∨ k = 2 ∨ k = 3 ∨ k = 4 := by omega
  all_goals decide
set_option maxHeartbeats 16000000 in
set_option maxRecDepth 100000 in
theorem header_any (r : Rec) (ua : Option Addr) (un uc : Nat) (h : rightRI r = 0) (w : World) (hE0 : Env w) :
    Calls Tryd.prog 18 #[RV r (.slice ua un uc)] w fun e w' => e = .returned (.string (S (hdrR r))) ∧ Below w.heap.size w w' := by
  obtain ⟨Q, hQ⟩ : ∃ Q, (fun (e : Ending) (w' : World) => e = .returned (.string (S (hdrR r))) ∧ Below w.heap.size w w') = Q := ⟨_, rfl⟩
  rw [hQ]
  have HQ : RowKit.Hid (∀ e w', (e = .returned (.string (S (hdrR r))) ∧ Below w.heap.size w w') → Q e w') := by rw [← hQ]; exact fun _ _ h => h
  clear hQ
  obtain ⟨h1, h2, h3, h4, h5, h6, h7, -, -⟩ := right_rec r h
  have hl3 := lang_len _ h7
  have c1 := fun W hE => cItoa r.id.toNat (by omega) W hE
  have c2 := fun W hE => cItoa r.ver.toNat (by omega) W hE
  rw [show ((r.id.toNat : Nat) : Int) = r.id by omega] at c1
  rw [show ((r.ver.toNat : Nat) : Int) = r.ver by omega] at c2
  replace c1 := Lib.hid c1
  replace c2 := Lib.hid c2
  have z1 : (S (Lib.decDigits r.id.toNat)).size ≤ 10 := by rw [S_size]; exact dec_len 9 _ (by omega)
  have z2 : (S (Lib.decDigits r.ver.toNat)).size ≤ 10 := by rw [S_size]; exact dec_len 9 _ (by omega)
  have z3 : (S (kindW r.kind)).size ≤ 7 := by
    rw [S_size]
    unfold kindW
    split
    · decide
    · split
      · decide
      · split <;> decide
  have z4 : (S r.lang).size ≤ 3 := by rw [S_size, hl3]; exact Nat.le_refl _
  have HS : RowKit.Hid ((⟨#[61]⟩ : ByteArray) ++ S (Lib.decDigits r.id.toNat) ++ ⟨#[32]⟩ ++ S (Lib.decDigits r.ver.toNat) ++ ⟨#[32]⟩ ++ S (kindW r.kind) ++ ⟨#[32]⟩ ++ S r.lang = S (hdrR r)) := by
    unfold RowKit.Hid
    rw [show (⟨#[61]⟩ : ByteArray) = S [61] from rfl, show (⟨#[32]⟩ : ByteArray) = S [32] from rfl]
    simp only [S_append]
    unfold hdrR hdrX midX
    simp
  unfold RV
  obtain ⟨W0, hW0⟩ : ∃ W0, w.alloc (.cells #[.int .i64 r.id, .int .i64 r.ver, .int .i64 r.kind, .string (S r.lang), .slice ua un uc] 24) = W0 := ⟨_, rfl⟩
  have b0 : Below w.heap.size w W0 := by rw [← hW0]; exact (Below.refl w.heap.size w).alloc (Nat.le_refl _) _
  have hR0 : W0.heap[w.heap.size]? = some (.cells #[.int .i64 r.id, .int .i64 r.ver, .int .i64 r.kind, .string (S r.lang), .slice ua un uc] 24 (0, 0)) := by rw [← hW0]; exact heap_alloc_new w _
  have hlt0 : w.heap.size < W0.heap.size := by rw [← hW0]; simp
  have HC := Lib.hid (fun (W : World) (h : Below W0.heap.size W0 W) => rcells ((h.block w.heap.size hlt0).trans hR0))
  have HE := Lib.hid (fun (W : World) (h : Below W0.heap.size W0 W) => (hE0.after b0).after h)
  obtain ⟨kk, hkk⟩ : ∃ kk : Nat, r.kind - 1 = (kk : Int) := ⟨(r.kind - 1).toNat, by omega⟩
  have hkk4 : kk < 4 := by omega
  have HK : RowKit.Hid (∀ W, Below W0.heap.size W0 W → W.cell? ⟨0, kk, none⟩ = some (.string (S (kindW r.kind)))) := by
    intro W hW
    have := ((hE0.after b0).after hW).kin.2 kk hkk4
    rw [show kk = (r.kind - 1).toNat by omega, kindsL_at _ h5 h6] at this
    rw [show kk = (r.kind - 1).toNat by omega]
    exact this
  have HW0 := Lib.hid hW0
  have B0 := Lib.hid b0
  have j0 : (0 : Int) ≤ (kk : Int) := by omega
  have j4 : (kk : Int) < 4 := by omega
  generalize S (Lib.decDigits r.id.toNat) = sa at *
  generalize S (Lib.decDigits r.ver.toNat) = sb at *
  generalize S (kindW r.kind) = sc at *
  generalize S r.lang = sd at *
  generalize S (hdrR r) = res at *
  clear h1 h2 h3 h7 hl3 hW0 b0 hR0 hlt0 hE0 h
  have hwr : IntKind.i64.wrap (kk : Int) = (kk : Int) := by
    obtain rfl | rfl | rfl | rfl : kk = 0 ∨ kk = 1 ∨ kk = 2 ∨ kk = 3 := by omega
    all_goals decide
  have J1 : ¬ 9223372036854775807 < 1 + sa.size := by omega
  have J2 : ¬ 9223372036854775807 < 1 + sa.size + 1 := by omega
  have J3 : ¬ 9223372036854775807 < 1 + sa.size + 1 + sb.size := by omega
  have J4 : ¬ 9223372036854775807 < 1 + sa.size + 1 + sb.size + 1 := by omega
  have J5 : ¬ 9223372036854775807 < 1 + sa.size + 1 + sb.size + 1 + sc.size := by omega
  have J6 : ¬ 9223372036854775807 < 1 + sa.size + 1 + sb.size + 1 + sc.size + 1 := by omega
  have J7 : ¬ 9223372036854775807 < 1 + sa.size + 1 + sb.size + 1 + sc.size + 1 + sd.size := by omega
  go_enter Tryd.func18, Tryd.ntmps18
  go_upto_region 1 with fail
  rw [HW0.out]
  apply wp_region_inv (V := [.eq (.pointer (some ⟨w.heap.size, 0, none⟩)), .eq (.int .i64 r.id), .eq (.string sa), .eq (.string ((⟨#[61]⟩ : ByteArray) ++ sa)), .eq (.string ((⟨#[61]⟩ : ByteArray) ++ sa ++ ⟨#[32]⟩)), .eq (.pointer (some ⟨w.heap.size, 1, none⟩)), .eq (.int .i64 r.ver), .eq (.string sb), .eq (.string ((⟨#[61]⟩ : ByteArray) ++ sa ++ ⟨#[32]⟩ ++ sb)), .eq (.string ((⟨#[61]⟩ : ByteArray) ++ sa ++ ⟨#[32]⟩ ++ sb ++ ⟨#[32]⟩)), .eq (.pointer (some ⟨w.heap.size, 2, none⟩)), .eq (.int .i64 r.kind), .eq (.int .i64 (kk : Int)), .eq (.pointer (some ⟨0, kk, none⟩)), .eq (.string sc), .eq (.string ((⟨#[61]⟩ : ByteArray) ++ sa ++ ⟨#[32]⟩ ++ sb ++ ⟨#[32]⟩ ++ sc)), .eq (.string ((⟨#[61]⟩ : ByteArray) ++ sa ++ ⟨#[32]⟩ ++ sb ++ ⟨#[32]⟩ ++ sc ++ ⟨#[32]⟩)), .eq (.pointer (some ⟨w.heap.size, 3, none⟩)), .eq (.string sd), .eq (.string ((⟨#[61]⟩ : ByteArray) ++ sa ++ ⟨#[32]⟩ ++ sb ++ ⟨#[32]⟩ ++ sc ++ ⟨#[32]⟩ ++ sd)), .eq (.string ((⟨#[61]⟩ : ByteArray) ++ sa ++ ⟨#[32]⟩ ++ sb ++ ⟨#[32]⟩ ++ sc ++ ⟨#[32]⟩ ++ sd))])
  case hm => kernel_rfl
  case hd => kernel_rfl
  case hb => kernel_rfl
  case hA =>
    intro vs
    simp only [puts, Act.put, List.setIfInBounds_toArray, List.set_cons_zero, List.set_cons_succ]
    exact rfl
  case hob =>
    refine Obs.cons _ _ _ _ _ _ ?o0 (Obs.cons _ _ _ _ _ _ ?o1 (Obs.cons _ _ _ _ _ _ ?o2 (Obs.cons _ _ _ _ _ _ ?o3 (Obs.cons _ _ _ _ _ _ ?o4 (Obs.cons _ _ _ _ _ _ ?o5 (Obs.cons _ _ _ _ _ _ ?o6 (Obs.cons _ _ _ _ _ _ ?o7 (Obs.cons _ _ _ _ _ _ ?o8 (Obs.cons _ _ _ _ _ _ ?o9 (Obs.cons _ _ _ _ _ _ ?o10 (Obs.cons _ _ _ _ _ _ ?o11 (Obs.cons _ _ _ _ _ _ ?o12 (Obs.cons _ _ _ _ _ _ ?o13 (Obs.cons _ _ _ _ _ _ ?o14 (Obs.cons _ _ _ _ _ _ ?o15 (Obs.cons _ _ _ _ _ _ ?o16 (Obs.cons _ _ _ _ _ _ ?o17 (Obs.cons _ _ _ _ _ _ ?o18 (Obs.cons _ _ _ _ _ _ ?o19 (Obs.cons _ _ _ _ _ _ ?o20 (Obs.nil _ _ _ _ _ _)))))))))))))))))))))
    case o0 =>
      intro vs W hw hd K hK
      go_simp
      exact hK.out _ _ rfl (Below.refl _ _)
    case o1 =>
      intro vs W hw hd K hK
      have h0 : vs 0 = .pointer (some ⟨w.heap.size, 0, none⟩) := hd 0 (by kernel_rfl)
      obtain ⟨⟨g0, g1, g2, g3, g4⟩, -⟩ := HC.out W hw
      simp only [Nat.reduceAdd, h0] at hK ⊢
      go_simp
      exact hK.out _ _ rfl (Below.refl _ _)
    case o2 =>
      intro vs W hw hd K hK
      have h1 : vs 1 = .int .i64 r.id := hd 1 (by kernel_rfl)
      simp only [Nat.reduceAdd, h1] at hK ⊢
      go_simp
      refine (c1.out W (HE.out W hw)).mono ?_
      rintro e W' ⟨rfl, hb'⟩
      exact hK.out _ _ rfl hb'
    case o3 =>
      intro vs W hw hd K hK
      have h2 : vs 2 = .string sa := hd 2 (by kernel_rfl)
      simp only [Nat.reduceAdd, h2] at hK ⊢
      go_simp
      exact hK.out _ _ rfl (Below.refl _ _)
    case o4 =>
      intro vs W hw hd K hK
      have h3 : vs 3 = .string ((⟨#[61]⟩ : ByteArray) ++ sa) := hd 3 (by kernel_rfl)
      simp only [Nat.reduceAdd, h3] at hK ⊢
      go_simp
      exact hK.out _ _ rfl (Below.refl _ _)
    case o5 =>
      intro vs W hw hd K hK
      go_simp
      exact hK.out _ _ rfl (Below.refl _ _)
    case o6 =>
      intro vs W hw hd K hK
      have h5 : vs 5 = .pointer (some ⟨w.heap.size, 1, none⟩) := hd 5 (by kernel_rfl)
      obtain ⟨⟨g0, g1, g2, g3, g4⟩, -⟩ := HC.out W hw
      simp only [Nat.reduceAdd, h5] at hK ⊢
      go_simp
      exact hK.out _ _ rfl (Below.refl _ _)
    case o7 =>
      intro vs W hw hd K hK
      have h6 : vs 6 = .int .i64 r.ver := hd 6 (by kernel_rfl)
      simp only [Nat.reduceAdd, h6] at hK ⊢
      go_simp
      refine (c2.out W (HE.out W hw)).mono ?_
      rintro e W' ⟨rfl, hb'⟩
      exact hK.out _ _ rfl hb'
    case o8 =>
      intro vs W hw hd K hK
      have h4 : vs 4 = .string ((⟨#[61]⟩ : ByteArray) ++ sa ++ ⟨#[32]⟩) := hd 4 (by kernel_rfl)
      have h7 : vs 7 = .string sb := hd 7 (by kernel_rfl)
      simp only [Nat.reduceAdd, h4, h7] at hK ⊢
      go_simp
      exact hK.out _ _ rfl (Below.refl _ _)
    case o9 =>
      intro vs W hw hd K hK
      have h8 : vs 8 = .string ((⟨#[61]⟩ : ByteArray) ++ sa ++ ⟨#[32]⟩ ++ sb) := hd 8 (by kernel_rfl)
      simp only [Nat.reduceAdd, h8] at hK ⊢
      go_simp
      exact hK.out _ _ rfl (Below.refl _ _)
    case o10 =>
      intro vs W hw hd K hK
      go_simp
      exact hK.out _ _ rfl (Below.refl _ _)
    case o11 =>
      intro vs W hw hd K hK
      have h10 : vs 10 = .pointer (some ⟨w.heap.size, 2, none⟩) := hd 10 (by kernel_rfl)
      obtain ⟨⟨g0, g1, g2, g3, g4⟩, -⟩ := HC.out W hw
      simp only [Nat.reduceAdd, h10] at hK ⊢
      go_simp
      exact hK.out _ _ rfl (Below.refl _ _)
    case o12 =>
      intro vs W hw hd K hK
      have h11 : vs 11 = .int .i64 r.kind := hd 11 (by kernel_rfl)
      simp only [Nat.reduceAdd, h11] at hK ⊢
      go_simp
      exact hK.out _ _ rfl (Below.refl _ _)
    case o13 =>
      intro vs W hw hd K hK
      have h12 : vs 12 = .int .i64 (kk : Int) := hd 12 (by kernel_rfl)
      simp only [Nat.reduceAdd, h12] at hK ⊢
      go_simp
      exact hK.out _ _ rfl (Below.refl _ _)
    case o14 =>
      intro vs W hw hd K hK
      have h13 : vs 13 = .pointer (some ⟨0, kk, none⟩) := hd 13 (by kernel_rfl)
      have gk := HK.out W hw
      simp only [Nat.reduceAdd, h13] at hK ⊢
      go_simp
      exact hK.out _ _ rfl (Below.refl _ _)
    case o15 =>
      intro vs W hw hd K hK
      have h9 : vs 9 = .string ((⟨#[61]⟩ : ByteArray) ++ sa ++ ⟨#[32]⟩ ++ sb ++ ⟨#[32]⟩) := hd 9 (by kernel_rfl)
      have h14 : vs 14 = .string sc := hd 14 (by kernel_rfl)
      simp only [Nat.reduceAdd, h9, h14] at hK ⊢
      go_simp
      exact hK.out _ _ rfl (Below.refl _ _)
    case o16 =>
      intro vs W hw hd K hK
      have h15 : vs 15 = .string ((⟨#[61]⟩ : ByteArray) ++ sa ++ ⟨#[32]⟩ ++ sb ++ ⟨#[32]⟩ ++ sc) := hd 15 (by kernel_rfl)
      simp only [Nat.reduceAdd, h15] at hK ⊢
      go_simp
      exact hK.out _ _ rfl (Below.refl _ _)
    case o17 =>
      intro vs W hw hd K hK
      go_simp
      exact hK.out _ _ rfl (Below.refl _ _)
    case o18 =>
      intro vs W hw hd K hK
      have h17 : vs 17 = .pointer (some ⟨w.heap.size, 3, none⟩) := hd 17 (by kernel_rfl)
      obtain ⟨⟨g0, g1, g2, g3, g4⟩, -⟩ := HC.out W hw
      simp only [Nat.reduceAdd, h17] at hK ⊢
      go_simp
      exact hK.out _ _ rfl (Below.refl _ _)
    case o19 =>
      intro vs W hw hd K hK
      have h16 : vs 16 = .string ((⟨#[61]⟩ : ByteArray) ++ sa ++ ⟨#[32]⟩ ++ sb ++ ⟨#[32]⟩ ++ sc ++ ⟨#[32]⟩) := hd 16 (by kernel_rfl)
      have h18 : vs 18 = .string sd := hd 18 (by kernel_rfl)
      simp only [Nat.reduceAdd, h16, h18] at hK ⊢
      go_simp
      exact hK.out _ _ rfl (Below.refl _ _)
    case o20 =>
      intro vs W hw hd K hK
      have h19 : vs 19 = .string ((⟨#[61]⟩ : ByteArray) ++ sa ++ ⟨#[32]⟩ ++ sb ++ ⟨#[32]⟩ ++ sc ++ ⟨#[32]⟩ ++ sd) := hd 19 (by kernel_rfl)
      simp only [Nat.reduceAdd, h19] at hK ⊢
      go_simp
      exact hK.out _ _ rfl (Below.refl _ _)
  case hfin =>
    intro vs W hw hd
    have h20 : vs 20 = .string ((⟨#[61]⟩ : ByteArray) ++ sa ++ ⟨#[32]⟩ ++ sb ++ ⟨#[32]⟩ ++ sc ++ ⟨#[32]⟩ ++ sd) := hd 20 (by decide)
    have BF := Lib.hid (B0.out.trans (hw.mono B0.out.size))
    simp only [Nat.reduceAdd, h20]
    rw [HS.out]
    first
      | (go_wp2; exact HQ.out _ _ ⟨rfl, BF.out⟩)
      | (go_wp2; go_ret; exact HQ.out _ _ ⟨rfl, BF.out⟩)
end

end Go.Proofs.YtnfallkeicehiaaDoor
