/- Merged: R15M, R08A, R08B, News. -/
import Derived.Test.YtfjfpefpdlecbaaGreatDoorQ15
import Derived.Test.YtfjfpefpdlecbaaGreatDoorQ14
import Derived.Deep.RegionLaw
import Derived.RegionTactic
import Derived.BigRegion
import Derived.Test.YtfjfpefpdlecbaaGreatDoorQ12
import Derived.Laws.ResultCell
import Derived.Laws.AppendOwnNone
namespace Go.Proofs.YtfjfpefpdlecbaaGreatDoor

section
open Go.RowKit Go.PlainAid
set_option maxHeartbeats 16000000 in
set_option maxRecDepth 100000 in
theorem refSameRule_eq (m : MRule) (v v' : Value) (w : World) (hm : KL v m.keys w) (hm' : KL v' m.keys w) :
    Calls Tryz.prog 12 #[MV m v, MV m v'] w fun e w' => e = .returned (.bool true) ∧ Below w.heap.size w w' := by
  obtain ⟨x, cap, g, o, rfl, hc, hmx, hga, hxa⟩ := hm.opened
  obtain ⟨x', cap2, g2, o2, rfl, hc', hmx', hga', hxa'⟩ := hm'.opened
  unfold maxLen at hmx hmx'
  generalize hn : m.keys.length = n at *
  obtain ⟨W0, hW0⟩ : ∃ W0, (w.alloc (.cells #[.slice x n cap, .int .i64 m.need] 24)).alloc (.cells #[.slice x' n cap2, .int .i64 m.need] 24) = W0 := ⟨_, rfl⟩
  have b0 : Below w.heap.size w W0 := by rw [← hW0]; exact ((Below.refl w.heap.size w).alloc (Nat.le_refl _) _).alloc (by simp) _
  have hsz0 : W0.heap.size = w.heap.size + 2 := by rw [← hW0]; simp
  have hM : W0.heap[w.heap.size]? = some (.cells #[.slice x n cap, .int .i64 m.need] 24 (0, 0)) := by
    rw [← hW0]
    exact (Below.heap_alloc _ _ _ (by simp)).trans (heap_alloc_new w _)
  have hM' : W0.heap[w.heap.size + 1]? = some (.cells #[.slice x' n cap2, .int .i64 m.need] 24 (0, 0)) := by
    rw [← hW0]
    have := heap_alloc_new (w.alloc (.cells #[.slice x n cap, .int .i64 m.need] 24)) (.cells #[.slice x' n cap2, .int .i64 m.need] 24)
    simpa using this
  have HM := Lib.hid (fun (W : World) (h : Below W0.heap.size W0 W) => (h.block w.heap.size (by omega)).trans hM)
  have HM2 := Lib.hid (fun (W : World) (h : Below W0.heap.size W0 W) => (h.block (w.heap.size + 1) (by omega)).trans hM')
  have HBw := Lib.hid (fun (W : World) (h : Below W0.heap.size W0 W) => b0.trans (h.mono b0.size))
  have HX := Lib.hid hxa
  have HX2 := Lib.hid hxa'
  have HRB := Lib.hid (Below.refl W0.heap.size W0)
  have HW0 := Lib.hid hW0
  obtain ⟨m0, m1⟩ := mcells2 hM
  obtain ⟨p0, p1⟩ := mcells2 hM'
  unfold MV
  clear hW0 hM hM' hxa hxa' b0 hsz0 hm hm' hn
  generalize m.need = need at *
  generalize m.keys = K at *
  go_enter Tryz.func12, Tryz.ntmps12
  go_upto_region 1 with fail
  rw [HW0.out]
  clear HW0
  go_wp2
  clear m0 m1 p0 p1
  go_loopw [5] (fun s5 wr => ∃ i : Nat, s5 = .int .i64 (i : Int) ∧ i ≤ n ∧ RowKit.Hid (Below W0.heap.size W0 wr)) (fun s5 _ => n - (intOf s5).toNat)
  case atStart => exact ⟨0, rfl, Nat.zero_le _, HRB.out⟩
  case round =>
    obtain ⟨i, rfl, hi, HB⟩ := hrel
    clear HRB
    have i1 : (0 : Int) ≤ (i : Int) := by omega
    obtain ⟨wq, hwq⟩ : ∃ wq, wr = wq := ⟨_, rfl⟩
    rw [hwq] at HB ⊢
    clear hwq
    obtain ⟨m0, m1⟩ := mcells2 (HM.out wq HB.out)
    by_cases hin : i < n
    · have i2 : (i : Int) < (n : Int) := by omega
      obtain rfl := hga (by omega)
      obtain rfl := hga' (by omega)
      have HMc := Lib.hid (fun (W : World) (h : Below wq.heap.size wq W) => HM.out W (HB.out.trans (h.mono HB.out.size)))
      have HMd := Lib.hid (fun (W : World) (h : Below wq.heap.size wq W) => HM2.out W (HB.out.trans (h.mono HB.out.size)))
      have HBa := Lib.hid (fun (W : World) (h : Below wq.heap.size wq W) => HB.out.trans (h.mono HB.out.size))
      have HKc := Lib.hid (fun (W : World) (h : Below wq.heap.size wq W) => HX.out W (HBw.out W (HBa.out W h)) i hin)
      have HKd := Lib.hid (fun (W : World) (h : Below wq.heap.size wq W) => HX2.out W (HBw.out W (HBa.out W h)) i hin)
      obtain ⟨k, hk⟩ : ∃ k, K.getD i key0 = k := ⟨_, rfl⟩
      rw [hk] at HKc HKd
      clear hk
      generalize S k.tag = kt at *
      generalize k.code.toNat = kc at *
      generalize k.norm = kn at *
      generalize k.weight = kw at *
      have HEqv : RowKit.Hid ((kt.toList == kt.toList && ((kc : Int) == (kc : Int) && (kn == kn && kw == kw))) = true) := by unfold RowKit.Hid; simp
      go_upto_region 6 with fail
      clear m0 m1
      apply wp_region_inv (V := [.eq (.pointer (some ⟨w.heap.size, 0, none⟩)), .eq (.slice (some ⟨g, o, none⟩) n cap), .eq (.int .i64 (i : Int)), .eq (.pointer (some ⟨g, o + i * 4, none⟩)), .eq (.agg #[.string kt, .int .u8 (kc : Int), .int .i64 kn, .int .i64 kw]), .eq (.pointer (some ⟨w.heap.size + 1, 0, none⟩)), .eq (.slice (some ⟨g2, o2, none⟩) n cap2), .eq (.int .i64 (i : Int)), .eq (.pointer (some ⟨g2, o2 + i * 4, none⟩)), .eq (.agg #[.string kt, .int .u8 (kc : Int), .int .i64 kn, .int .i64 kw]), .eq (.bool false)])
      case hm => kernel_rfl
      case hd => kernel_rfl
      case hb => kernel_rfl
      case hA =>
        intro vs
        simp only [puts, Act.put, List.setIfInBounds_toArray, List.set_cons_zero, List.set_cons_succ]
        exact rfl
      case hob =>
        refine Obs.cons _ _ _ _ _ _ ?o0 (Obs.cons _ _ _ _ _ _ ?o1 (Obs.cons _ _ _ _ _ _ ?o2 (Obs.cons _ _ _ _ _ _ ?o3 (Obs.cons _ _ _ _ _ _ ?o4 (Obs.cons _ _ _ _ _ _ ?o5 (Obs.cons _ _ _ _ _ _ ?o6 (Obs.cons _ _ _ _ _ _ ?o7 (Obs.cons _ _ _ _ _ _ ?o8 (Obs.cons _ _ _ _ _ _ ?o9 (Obs.cons _ _ _ _ _ _ ?o10 (Obs.nil _ _ _ _ _ _)))))))))))
        case o0 =>
          intro vs W hw hd K hK
          go_simp
          exact hK.out _ _ rfl (Below.refl _ _)
        case o1 =>
          intro vs W hw hd K hK
          have h0 : vs 0 = .pointer (some ⟨w.heap.size, 0, none⟩) := hd 0 (by kernel_rfl)
          obtain ⟨m0, m1⟩ := mcells2 (HMc.out W hw)
          simp only [Nat.reduceAdd, h0] at hK ⊢
          go_simp
          exact hK.out _ _ rfl (Below.refl _ _)
        case o2 =>
          intro vs W hw hd K hK
          go_simp
          exact hK.out _ _ rfl (Below.refl _ _)
        case o3 =>
          intro vs W hw hd K hK
          have h1 : vs 1 = .slice (some ⟨g, o, none⟩) n cap := hd 1 (by kernel_rfl)
          have h2 : vs 2 = .int .i64 (i : Int) := hd 2 (by kernel_rfl)
          simp only [Nat.reduceAdd, h1, h2] at hK ⊢
          go_simp
          exact hK.out _ _ rfl (Below.refl _ _)
        case o4 =>
          intro vs W hw hd K hK
          have h3 : vs 3 = .pointer (some ⟨g, o + i * 4, none⟩) := hd 3 (by kernel_rfl)
          obtain ⟨k0, k1, k2, k3⟩ := HKc.out W hw
          simp only [Nat.reduceAdd, h3] at hK ⊢
          go_simp
          exact hK.out _ _ rfl (Below.refl _ _)
        case o5 =>
          intro vs W hw hd K hK
          go_simp
          exact hK.out _ _ rfl (Below.refl _ _)
        case o6 =>
          intro vs W hw hd K hK
          have h5 : vs 5 = .pointer (some ⟨w.heap.size + 1, 0, none⟩) := hd 5 (by kernel_rfl)
          obtain ⟨m0, m1⟩ := mcells2 (HMd.out W hw)
          simp only [Nat.reduceAdd, h5] at hK ⊢
          go_simp
          exact hK.out _ _ rfl (Below.refl _ _)
        case o7 =>
          intro vs W hw hd K hK
          go_simp
          exact hK.out _ _ rfl (Below.refl _ _)
        case o8 =>
          intro vs W hw hd K hK
          have h6 : vs 6 = .slice (some ⟨g2, o2, none⟩) n cap2 := hd 6 (by kernel_rfl)
          have h7 : vs 7 = .int .i64 (i : Int) := hd 7 (by kernel_rfl)
          simp only [Nat.reduceAdd, h6, h7] at hK ⊢
          go_simp
          exact hK.out _ _ rfl (Below.refl _ _)
        case o9 =>
          intro vs W hw hd K hK
          have h8 : vs 8 = .pointer (some ⟨g2, o2 + i * 4, none⟩) := hd 8 (by kernel_rfl)
          obtain ⟨k0, k1, k2, k3⟩ := HKd.out W hw
          simp only [Nat.reduceAdd, h8] at hK ⊢
          go_simp
          exact hK.out _ _ rfl (Below.refl _ _)
        case o10 =>
          intro vs W hw hd K hK
          have h4 : vs 4 = .agg #[.string kt, .int .u8 (kc : Int), .int .i64 kn, .int .i64 kw] := hd 4 (by kernel_rfl)
          have h9 : vs 9 = .agg #[.string kt, .int .u8 (kc : Int), .int .i64 kn, .int .i64 kw] := hd 9 (by kernel_rfl)
          simp only [Nat.reduceAdd, h4, h9] at hK ⊢
          go_simp
          exact hK.out _ _ rfl (Below.refl _ _)
      case hfin =>
        intro vs W hw hd
        have h10 : vs 10 = .bool false := hd 10 (by decide)
        simp only [Nat.reduceAdd, h10]
        have HBn := Lib.hid (HBa.out W hw)
        clear hd h10 hw
        go_wp2
        go_roundw
        case rel => exact ⟨i + 1, by go_num, by omega, HBn.out⟩
        case measure => simp [intOf]; omega
    · obtain rfl : i = n := by omega
      have HG := Lib.hid (HBw.out wq HB.out)
      go_wp2
      first | exact ⟨rfl, HG.out⟩ | (go_ret; exact ⟨rfl, HG.out⟩)
end

section
open Go.RowKit Go.PlainAid
set_option maxHeartbeats 8000000 in
theorem refSmallField_any (f : Fld) (u : Value) (w : World) (hu : QL u f.subs w) (b : Bool) (hb : smallFB f = b) :
    Calls Tryz.prog 54 #[FV f u] w fun e w' => e = .returned (.bool b) ∧ Below w.heap.size w w' := by
  obtain ⟨a, cap, rfl, hcap, hmax, _, hcell⟩ := hu
  unfold maxLen at hmax
  unfold FV
  unfold smallFB at hb
  have HT := Lib.hid (all_true sub0 (fun s : Sub => decide (s.2.length ≤ 300)) f.subs)
  have HF := Lib.hid (all_false sub0 (fun s : Sub => decide (s.2.length ≤ 300)) f.subs)
  generalize (f.subs.all fun s => decide (s.2.length ≤ 300)) = al at *
  obtain ⟨n, hn⟩ : ∃ n, f.subs.length = n := ⟨_, rfl⟩
  have HCell := Lib.hid hcell
  rw [hn] at hcap hb ⊢
  have HN := Lib.hid hn
  obtain ⟨W0, hW0⟩ : ∃ W0, w.alloc (.cells #[.string (S f.tag), .string (S f.ind), .slice a n cap, .int .i64 f.auth] 57) = W0 := ⟨_, rfl⟩
  have b0 : Below w.heap.size w W0 := by rw [← hW0]; exact (Below.refl w.heap.size w).alloc (Nat.le_refl _) _
  have k2 : W0.cell? ⟨w.heap.size, 2, none⟩ = some (.slice a n cap) := by rw [← hW0]; simp
  have HW0 := Lib.hid hW0
  clear hcell hn hW0
  by_cases h1 : 20 < n
  · rw [decide_eq_false (show ¬ n ≤ 20 by omega), Bool.false_and] at hb
    subst hb
    have d1 : decide ((20 : Int) < (n : Int)) = true := decide_eq_true (by omega)
    go_enter Tryz.func54, Tryz.ntmps54
    go_wp2
    go_ret
    rw [HW0.out]
    exact ⟨rfl, b0⟩
  rw [decide_eq_true (show n ≤ 20 by omega), Bool.true_and] at hb
  subst hb
  have d1 : decide ((20 : Int) < (n : Int)) = false := decide_eq_false (by omega)
  have hn20 : n ≤ 20 := by omega
  go_enter Tryz.func54, Tryz.ntmps54
  go_wp2
  rw [HW0.out]
  go_loopw [3] (fun i wr => ∃ k : Nat, k ≤ n ∧ i = .int .i64 (k : Int) ∧ RowKit.Hid (∀ j, j < k → (f.subs.getD j sub0).2.length ≤ 300) ∧ wr = W0) (fun i _ => n - (intOf i).toNat)
  case atStart => exact ⟨0, Nat.zero_le _, rfl, (fun j hj => by omega), rfl⟩
  case round =>
    obtain ⟨k, hk, rfl, HJ, hwr⟩ := hrel
    rw [hwr]
    clear hwr
    by_cases hkn : k < n
    · obtain ⟨g, o, rfl, hg, _, c2⟩ := HCell.out k (by rw [HN.out]; exact hkn)
      have c2 : W0.cell? ⟨g, o + k * 2 + 1, none⟩ = some (.string (S (f.subs.getD k sub0).2)) := (b0.cell (p := ⟨g, o + k * 2 + 1, none⟩) hg).trans c2
      have i1 : (0 : Int) ≤ (k : Int) := by omega
      have i2 : (k : Int) < (n : Int) := by omega
      have hz := S_size (f.subs.getD k sub0).2
      by_cases hv : 300 < (f.subs.getD k sub0).2.length
      · obtain rfl : al = false := HF.out k (by rw [HN.out]; exact hkn) (decide_eq_false (by omega))
        have d4 : decide ((300 : Int) < (((f.subs.getD k sub0).2.length : Nat) : Int)) = true := decide_eq_true (by omega)
        clear HJ hv
        generalize (f.subs.getD k sub0).2.length = vl at *
        generalize S (f.subs.getD k sub0).2 = sv at *
        go_wp2
        go_ret
        exact ⟨rfl, b0⟩
      · have d4 : decide ((300 : Int) < (((f.subs.getD k sub0).2.length : Nat) : Int)) = false := decide_eq_false (by omega)
        have HJ2 : RowKit.Hid (∀ j, j < k + 1 → (f.subs.getD j sub0).2.length ≤ 300) := by
          intro j hj
          rcases Nat.lt_or_ge j k with h | h
          · exact HJ.out j h
          · rw [show j = k by omega]; omega
        clear HJ hv
        generalize (f.subs.getD k sub0).2.length = vl at *
        generalize S (f.subs.getD k sub0).2 = sv at *
        go_wp2
        go_roundw
        case rel => exact ⟨k + 1, by omega, by go_num, HJ2, trivial⟩
        case measure => simp [intOf]; omega
    · obtain rfl : k = n := by omega
      obtain rfl : al = true := HT.out (fun j hj => decide_eq_true (HJ.out j (by rw [HN.out] at hj; exact hj)))
      go_wp2
      go_ret
      exact ⟨rfl, b0⟩

set_option maxHeartbeats 8000000 in
theorem refSmall_any (r : Rec) (u : Value) (w : World) (hu : FL u r.fields w) (b : Bool) (hb : smallRB r = b) :
    Calls Tryz.prog 35 #[RV r u] w fun e w' => e = .returned (.bool b) ∧ Below w.heap.size w w' := by
  have HU := Lib.hid hu
  obtain ⟨a, cap, rfl, hcap, hmax⟩ := hu.length
  unfold maxLen at hmax
  unfold RV
  unfold smallRB at hb
  have HT := Lib.hid (all_true fd0 smallFB r.fields)
  have HF := Lib.hid (all_false fd0 smallFB r.fields)
  generalize r.fields.all smallFB = al at *
  have cS := Lib.hid (fun k x W hx bb hbb => refSmallField_any (r.fields.getD k fd0) x W hx bb hbb)
  unfold FV at cS
  obtain ⟨n, hn⟩ : ∃ n, r.fields.length = n := ⟨_, rfl⟩
  rw [hn] at hcap hb HU ⊢
  have HN := Lib.hid hn
  obtain ⟨W0, hW0⟩ : ∃ W0, w.alloc (.cells #[.int .i64 r.id, .int .i64 r.ver, .int .i64 r.kind, .string (S r.lang), .slice a n cap] 33) = W0 := ⟨_, rfl⟩
  have b0 : Below w.heap.size w W0 := by rw [← hW0]; exact (Below.refl w.heap.size w).alloc (Nat.le_refl _) _
  have hlt : w.heap.size < W0.heap.size := by rw [← hW0]; simp
  have k4 : W0.cell? ⟨w.heap.size, 4, none⟩ = some (.slice a n cap) := by rw [← hW0]; simp
  have HW0 := Lib.hid hW0
  have HU0 := Lib.hid (HU.out.after b0)
  clear hn hW0 hu HU
  by_cases h1 : 70 < n
  · rw [decide_eq_false (show ¬ n ≤ 70 by omega), Bool.false_and] at hb
    subst hb
    have d1 : decide ((70 : Int) < (n : Int)) = true := decide_eq_true (by omega)
    go_enter Tryz.func35, Tryz.ntmps35
    go_wp2
    go_ret
    rw [HW0.out]
    exact ⟨rfl, b0⟩
  rw [decide_eq_true (show n ≤ 70 by omega), Bool.true_and] at hb
  subst hb
  have d1 : decide ((70 : Int) < (n : Int)) = false := decide_eq_false (by omega)
  have hn70 : n ≤ 70 := by omega
  go_enter Tryz.func35, Tryz.ntmps35
  go_wp2
  rw [HW0.out]
  clear h1
  go_loopw [3] (fun i wr => ∃ k : Nat, k ≤ n ∧ i = .int .i64 (k : Int) ∧ RowKit.Hid (∀ j, j < k → smallFB (r.fields.getD j fd0) = true) ∧ Below W0.heap.size W0 wr) (fun i _ => n - (intOf i).toNat)
  case atStart => exact ⟨0, Nat.zero_le _, rfl, (fun j hj => by omega), Below.refl _ _⟩
  case round =>
    obtain ⟨k, hk, rfl, HJ, hbw⟩ := hrel
    have j4 := (hbw.cell (p := ⟨w.heap.size, 4, none⟩) hlt).trans k4
    by_cases hkn : k < n
    · obtain ⟨g, o, cap', x, he, hg, c0, c1, c2, c3, hq⟩ := (HU0.out.after hbw).at k (by rw [HN.out]; exact hkn)
      obtain ⟨ha, -, hcp⟩ := Value.slice.inj he
      subst ha hcp
      clear he
      have i1 : (0 : Int) ≤ (k : Int) := by omega
      have i2 : (k : Int) < (n : Int) := by omega
      cases hsf : smallFB (r.fields.getD k fd0)
      · obtain rfl : al = false := HF.out k (by rw [HN.out]; exact hkn) hsf
        have c := Lib.hid (cS.out k x wr hq false hsf)
        have Fin := Lib.hid (b0.trans (hbw.mono b0.size))
        clear HJ hq hsf
        generalize S (r.fields.getD k fd0).tag = t0 at *
        generalize S (r.fields.getD k fd0).ind = t1 at *
        generalize (r.fields.getD k fd0).auth = t3 at *
        go_wp2_with fail
        refine c.out.mono ?_
        rintro e w5 ⟨rfl, d⟩
        have Fin2 := Lib.hid (Fin.out.trans (d.mono Fin.out.size))
        go_wp2
        go_ret
        exact ⟨rfl, Fin2.out⟩
      · have c := Lib.hid (cS.out k x wr hq true hsf)
        have HJ2 : RowKit.Hid (∀ j, j < k + 1 → smallFB (r.fields.getD j fd0) = true) := by
          intro j hj
          rcases Nat.lt_or_ge j k with h | h
          · exact HJ.out j h
          · rw [show j = k by omega]; exact hsf
        clear HJ hq hsf
        generalize S (r.fields.getD k fd0).tag = t0 at *
        generalize S (r.fields.getD k fd0).ind = t1 at *
        generalize (r.fields.getD k fd0).auth = t3 at *
        go_wp2_with fail
        refine c.out.mono ?_
        rintro e w5 ⟨rfl, d⟩
        have hb5 := Lib.hid (hbw.trans (d.mono hbw.size))
        go_wp2
        go_roundw
        case rel => exact ⟨k + 1, by omega, by go_num, HJ2, hb5.out⟩
        case measure => simp [intOf]; omega
    · obtain rfl : k = n := by omega
      obtain rfl : al = true := HT.out (fun j hj => HJ.out j (by rw [HN.out] at hj; exact hj))
      have Fin := Lib.hid (b0.trans (hbw.mono b0.size))
      go_wp2
      go_ret
      exact ⟨rfl, Fin.out⟩
end

section
open Go.RowKit Go.PlainAid
theorem langB_false (l : List UInt8) (k : Nat) (hk : k < 3) (hb : lowB (l.getD k 0) = false) : langB l = false := by
  unfold langB
  match k, hk with
  | 0, _ => rw [hb]; simp
  | 1, _ => rw [hb]; simp
  | 2, _ => rw [hb]; simp
theorem langB_true (l : List UInt8) (h : l.length = 3) (hb : ∀ k, k < 3 → lowB (l.getD k 0) = true) : langB l = true := by
  unfold langB
  rw [hb 0 (by omega), hb 1 (by omega), hb 2 (by omega), decide_eq_true h]
  rfl

set_option maxHeartbeats 16000000 in
theorem refRight08_any (r : Rec) (u : Value) (w : World) (hu : FL u r.fields w) (hz : ∀ i, i < r.fields.length → ∀ j, j < (r.fields.getD i fd0).subs.length → ((r.fields.getD i fd0).subs.getD j sub0).2.length ≤ 1000000) (er : Int) (hb : rightRI r = er) :
    Calls Tryz.prog 36 #[RV r u] w fun e w' => e = .returned (.int .i64 er) ∧ Below w.heap.size w w' := by
  have HU := Lib.hid hu
  obtain ⟨a, cap, rfl, hcap, hmax⟩ := hu.length
  unfold maxLen at hmax
  unfold RV
  unfold rightRI at hb
  have HHit := Lib.hid (firstFE_hit r.fields)
  have HMiss := Lib.hid (firstFE_miss r.fields)
  have HLF := Lib.hid (langB_false r.lang)
  have HLT := Lib.hid (langB_true r.lang)
  have HL3 : langB r.lang = true → r.lang.length = 3 := fun h => by
    unfold langB at h
    simp only [Bool.and_eq_true, decide_eq_true_eq] at h
    exact h.1.1.1
  have cR := Lib.hid (fun k x W hx hzz e he => refRight_any (r.fields.getD k fd0) x W hx hzz e he)
  unfold FV at cR
  generalize firstFE r.fields = fe at *
  generalize langB r.lang = lb at *
  obtain ⟨n, hn⟩ : ∃ n, r.fields.length = n := ⟨_, rfl⟩
  rw [hn] at hcap hb HU ⊢
  have HN := Lib.hid hn
  have HZ := Lib.hid hz
  obtain ⟨W0, hW0⟩ : ∃ W0, w.alloc (.cells #[.int .i64 r.id, .int .i64 r.ver, .int .i64 r.kind, .string (S r.lang), .slice a n cap] 33) = W0 := ⟨_, rfl⟩
  have b0 : Below w.heap.size w W0 := by rw [← hW0]; exact (Below.refl w.heap.size w).alloc (Nat.le_refl _) _
  have hlt : w.heap.size < W0.heap.size := by rw [← hW0]; simp
  have k0 : W0.cell? ⟨w.heap.size, 0, none⟩ = some (.int .i64 r.id) := by rw [← hW0]; simp
  have k1 : W0.cell? ⟨w.heap.size, 1, none⟩ = some (.int .i64 r.ver) := by rw [← hW0]; simp
  have k2 : W0.cell? ⟨w.heap.size, 2, none⟩ = some (.int .i64 r.kind) := by rw [← hW0]; simp
  have k3 : W0.cell? ⟨w.heap.size, 3, none⟩ = some (.string (S r.lang)) := by rw [← hW0]; simp
  have k4 : W0.cell? ⟨w.heap.size, 4, none⟩ = some (.slice a n cap) := by rw [← hW0]; simp
  have HW0 := Lib.hid hW0
  have HU0 := Lib.hid (HU.out.after b0)
  clear hn hW0 hu HU hz
  have hsz := S_size r.lang
  have hbt := get_bt (S r.lang)
  have HBS := Lib.hid (bt_S r.lang)
  obtain ⟨ll, hll⟩ : ∃ ll, r.lang.length = ll := ⟨_, rfl⟩
  rw [hll] at hsz HLT HL3
  clear hll
  generalize S r.lang = st at *
  generalize r.id = vi at *
  generalize r.ver = vv at *
  generalize r.kind = vk at *
  by_cases h0 : vi < 0 ∨ 9999 < vi
  · rw [if_pos h0] at hb
    subst hb
    rcases h0 with h0 | h0
    · have d0 : decide (vi < 0) = true := decide_eq_true h0
      clear h0
      go_enter Tryz.func36, Tryz.ntmps36
      go_wp2
      go_ret
      rw [HW0.out]
      exact ⟨rfl, b0⟩
    · have d0 : decide (vi < 0) = false := decide_eq_false (by omega)
      have d1 : decide (9999 < vi) = true := decide_eq_true h0
      clear h0
      go_enter Tryz.func36, Tryz.ntmps36
      go_wp2
      go_ret
      rw [HW0.out]
      exact ⟨rfl, b0⟩
  rw [if_neg h0] at hb
  have d0 : decide (vi < 0) = false := decide_eq_false (by omega)
  have d1 : decide (9999 < vi) = false := decide_eq_false (by omega)
  clear h0
  by_cases h1 : vv < 1 ∨ 3 < vv
  · rw [if_pos h1] at hb
    subst hb
    rcases h1 with h0 | h0
    · have d2 : decide (vv < 1) = true := decide_eq_true h0
      clear h0
      go_enter Tryz.func36, Tryz.ntmps36
      go_wp2
      go_ret
      rw [HW0.out]
      exact ⟨rfl, b0⟩
    · have d2 : decide (vv < 1) = false := decide_eq_false (by omega)
      have d3 : decide (3 < vv) = true := decide_eq_true h0
      clear h0
      go_enter Tryz.func36, Tryz.ntmps36
      go_wp2
      go_ret
      rw [HW0.out]
      exact ⟨rfl, b0⟩
  rw [if_neg h1] at hb
  have d2 : decide (vv < 1) = false := decide_eq_false (by omega)
  have d3 : decide (3 < vv) = false := decide_eq_false (by omega)
  clear h1
  by_cases h2 : vk < 1 ∨ 4 < vk
  · rw [if_pos h2] at hb
    subst hb
    rcases h2 with h0 | h0
    · have d4 : decide (vk < 1) = true := decide_eq_true h0
      clear h0
      go_enter Tryz.func36, Tryz.ntmps36
      go_wp2
      go_ret
      rw [HW0.out]
      exact ⟨rfl, b0⟩
    · have d4 : decide (vk < 1) = false := decide_eq_false (by omega)
      have d5 : decide (4 < vk) = true := decide_eq_true h0
      clear h0
      go_enter Tryz.func36, Tryz.ntmps36
      go_wp2
      go_ret
      rw [HW0.out]
      exact ⟨rfl, b0⟩
  rw [if_neg h2] at hb
  have d4 : decide (vk < 1) = false := decide_eq_false (by omega)
  have d5 : decide (4 < vk) = false := decide_eq_false (by omega)
  clear h2
  by_cases h3 : ll = 3
  case neg =>
    obtain rfl : lb = false := by
      cases lb
      · rfl
      · exact absurd (HL3 rfl) h3
    rw [if_pos rfl] at hb
    subst hb
    have t3 : ((ll : Int) != 3) = true := by simp; omega
    clear HL3 h3
    go_enter Tryz.func36, Tryz.ntmps36
    go_wp2
    go_ret
    rw [HW0.out]
    exact ⟨rfl, b0⟩
  subst h3
  have HB := Lib.hid hb
  clear hb HL3
  go_enter Tryz.func36, Tryz.ntmps36
  go_wp2
  rw [HW0.out]
  clear k0 k1 k2 d0 d1 d2 d3 d4 d5
  go_loopw [3] (fun i wr => ∃ k : Nat, k ≤ 3 ∧ i = .int .i64 (k : Int) ∧ RowKit.Hid (∀ j, j < k → lowB (r.lang.getD j 0) = true) ∧ wr = W0) (fun i _ => 3 - (intOf i).toNat)
  case atStart => exact ⟨0, Nat.zero_le _, rfl, (fun j hj => by omega), rfl⟩
  case round =>
    obtain ⟨k, hk, rfl, HJ, hwr⟩ := hrel
    rw [hwr]
    clear hwr
    by_cases hk3 : k < 3
    · have i1 : (0 : Int) ≤ (k : Int) := by omega
      have i2 : (k : Int) < 3 := by omega
      have hq := HBS.out k
      obtain ⟨y, hy⟩ : ∃ y, (r.lang.getD k 0).toNat = y := ⟨_, rfl⟩
      rw [hy] at hq
      cases hlo : lowB (r.lang.getD k 0)
      · obtain rfl : lb = false := HLF.out k hk3 hlo
        have hB := HB.out
        rw [if_pos rfl] at hB
        subst hB
        unfold lowB at hlo
        rw [hy] at hlo
        clear HJ HB
        by_cases hy1 : y < 97
        · have e1 : decide (bt st k < 97) = true := decide_eq_true (by omega)
          clear hlo hy1 hq hy
          go_wp2
          go_ret
          exact ⟨rfl, b0⟩
        · have e1 : decide (bt st k < 97) = false := decide_eq_false (by omega)
          have hy2 : 122 < y := by
            rcases Nat.lt_or_ge 122 y with h | h
            · exact h
            · rw [decide_eq_true (show 97 ≤ y by omega), decide_eq_true h] at hlo
              cases hlo
          have e2 : decide (122 < bt st k) = true := decide_eq_true (by omega)
          clear hlo hy1 hy2 hq hy
          go_wp2
          go_ret
          exact ⟨rfl, b0⟩
      · have HJ2 : RowKit.Hid (∀ j, j < k + 1 → lowB (r.lang.getD j 0) = true) := by
          intro j hj
          rcases Nat.lt_or_ge j k with h | h
          · exact HJ.out j h
          · rw [show j = k by omega]; exact hlo
        unfold lowB at hlo
        rw [hy, Bool.and_eq_true, decide_eq_true_eq, decide_eq_true_eq] at hlo
        have e1 : decide (bt st k < 97) = false := decide_eq_false (by omega)
        have e2 : decide (122 < bt st k) = false := decide_eq_false (by omega)
        clear hlo hq hy HJ
        go_wp2
        go_roundw
        case rel => exact ⟨k + 1, by omega, by go_num, HJ2, trivial⟩
        case measure => simp [intOf]; omega
    · obtain rfl : k = 3 := by omega
      obtain rfl : lb = true := HLT.out (by first | rfl | trivial) (fun j hj => HJ.out j hj)
      have hB := HB.out
      rw [if_neg (fun h => by cases h)] at hB
      clear HB HJ hbt hsz k3
      by_cases hlong : 64 < n
      · rw [if_pos hlong] at hB
        subst hB
        have d6 : decide ((64 : Int) < (n : Int)) = true := decide_eq_true (by omega)
        go_wp2
        go_ret
        exact ⟨rfl, b0⟩
      rw [if_neg hlong] at hB
      subst hB
      have d6 : decide ((64 : Int) < (n : Int)) = false := decide_eq_false (by omega)
      have hn64 : n ≤ 64 := by omega
      clear hlong
      go_wp2
      go_loopw [4] (fun i wr => ∃ k : Nat, k ≤ n ∧ i = .int .i64 (k : Int) ∧ RowKit.Hid (∀ j, j < k → rightI (r.fields.getD j fd0) = 0) ∧ Below W0.heap.size W0 wr) (fun i _ => n - (intOf i).toNat)
      case atStart => exact ⟨0, Nat.zero_le _, rfl, (fun j hj => by omega), Below.refl _ _⟩
      case round =>
        obtain ⟨k, hk, rfl, HJ, hbw⟩ := hrel
        have j4 := (hbw.cell (p := ⟨w.heap.size, 4, none⟩) hlt).trans k4
        by_cases hkn : k < n
        · obtain ⟨g, o, cap', x, he, hg, c0, c1, c2, c3, hq⟩ := (HU0.out.after hbw).at k (by rw [HN.out]; exact hkn)
          obtain ⟨ha, -, hcp⟩ := Value.slice.inj he
          subst ha hcp
          clear he
          have i1 : (0 : Int) ≤ (k : Int) := by omega
          have i2 : (k : Int) < (n : Int) := by omega
          obtain ⟨ee, hee⟩ : ∃ ee, rightI (r.fields.getD k fd0) = ee := ⟨_, rfl⟩
          have c := Lib.hid (cR.out k x wr hq (fun j hj => HZ.out k (by rw [HN.out]; exact hkn) j hj) ee hee)
          have hHit := HHit.out k (by rw [HN.out]; exact hkn) HJ.out
          rw [hee] at hHit
          by_cases h0 : ee = 0
          · have HJ2 : RowKit.Hid (∀ j, j < k + 1 → rightI (r.fields.getD j fd0) = 0) := by
              intro j hj
              rcases Nat.lt_or_ge j k with h | h
              · exact HJ.out j h
              · rw [show j = k by omega, hee]; exact h0
            subst h0
            clear HJ hq hHit
            generalize S (r.fields.getD k fd0).tag = t0 at *
            generalize S (r.fields.getD k fd0).ind = t1 at *
            generalize (r.fields.getD k fd0).auth = t3 at *
            go_wp2_with fail
            refine c.out.mono ?_
            rintro e w5 ⟨rfl, d⟩
            have hb5 := Lib.hid (hbw.trans (d.mono hbw.size))
            go_wp2
            go_roundw
            case rel => exact ⟨k + 1, by omega, by go_num, HJ2, hb5.out⟩
            case measure => simp [intOf]; omega
          · obtain rfl : fe = ee := hHit h0
            have t5 : (fe != 0) = true := by simpa using h0
            have Fin := Lib.hid (b0.trans (hbw.mono b0.size))
            clear HJ hq hHit h0 hee
            generalize S (r.fields.getD k fd0).tag = t0 at *
            generalize S (r.fields.getD k fd0).ind = t1 at *
            generalize (r.fields.getD k fd0).auth = t3 at *
            go_wp2_with fail
            refine c.out.mono ?_
            rintro e w5 ⟨rfl, d⟩
            have Fin2 := Lib.hid (Fin.out.trans (d.mono Fin.out.size))
            go_wp2
            go_ret
            exact ⟨rfl, Fin2.out⟩
        · obtain rfl : k = n := by omega
          obtain rfl : fe = 0 := HMiss.out (fun j hj => HJ.out j (by rw [HN.out] at hj; exact hj))
          have Fin := Lib.hid (b0.trans (hbw.mono b0.size))
          go_wp2
          go_ret
          exact ⟨rfl, Fin.out⟩
end

section
open Go.RowKit Go.PlainAid
/-- What holds of blocks from B on alone. -/
def New (B : Nat) (P : World → Prop) (w : World) : Prop := ∀ w' : World, w.heap.size ≤ w'.heap.size → (∀ i, B ≤ i → i < w.heap.size → w'.heap[i]? = w.heap[i]?) → P w'
theorem New.here {B : Nat} {P : World → Prop} {w : World} (h : New B P w) : P w := h w (Nat.le_refl _) (fun _ _ _ => rfl)
theorem New.on {B : Nat} {P : World → Prop} {w w' : World} (h : New B P w) (hs : w.heap.size ≤ w'.heap.size) (hb : ∀ i, B ≤ i → i < w.heap.size → w'.heap[i]? = w.heap[i]?) : New B P w' :=
  fun w2 h1 h2 => h w2 (Nat.le_trans hs h1) fun i h3 h4 => (h2 i h3 (Nat.lt_of_lt_of_le h4 hs)).trans (hb i h3 h4)
theorem New.mono {B B' : Nat} {P : World → Prop} {w : World} (h : New B' P w) (hB : B ≤ B') : New B P w :=
  fun w2 h1 h2 => h w2 h1 fun i h3 h4 => h2 i (Nat.le_trans hB h3) h4
theorem New.after {B : Nat} {P : World → Prop} {w w' : World} (h : New B P w) (hb : Below w.heap.size w w') : New B P w' := h.on hb.size fun i _ hi => hb.block i hi

theorem heap_setn (w : World) (p : Addr) (v : Value) (g : Nat) (h : g ≠ p.block) : (w.setCell p v).heap[g]? = w.heap[g]? := Below.heap_setCell _ _ _ _ h
/-- A row that lies from B on lies there in every world with the same blocks from B on. -/
theorem own_same {w w' : World} {B e size n : Nat} {v : Value} {xs : List Value} (h : w.ownsRow B e size v n xs) (hb : ∀ i, B ≤ i → i < w.heap.size → w'.heap[i]? = w.heap[i]?) : w'.ownsRow B e size v n xs := by
  refine ⟨h.1, ?_⟩
  rcases h.2 with hn | ⟨g, cap, cur, hv, hB', hg, rest⟩
  · exact .inl hn
  · exact .inr ⟨g, cap, cur, hv, hB', (hb g hB' (Array.getElem?_eq_some_iff.1 hg).1).trans hg, rest⟩

/-- What holds of blocks from B on but one. -/
def NewX (B : Nat) (og : Option Nat) (P : World → Prop) (w : World) : Prop := ∀ w' : World, w.heap.size ≤ w'.heap.size → (∀ i, B ≤ i → i < w.heap.size → some i ≠ og → w'.heap[i]? = w.heap[i]?) → P w'
theorem NewX.of {B B' : Nat} {og : Option Nat} {P : World → Prop} {w : World} (h : New B' P w) (hB : B ≤ B') (ho : ∀ k, og = some k → k < B') : NewX B og P w :=
  fun w2 h1 h2 => h w2 h1 fun i h3 h4 => h2 i (Nat.le_trans hB h3) h4 (fun e => by have := ho i e.symm; omega)
theorem NewX.on {B : Nat} {og : Option Nat} {P : World → Prop} {w w' : World} (h : NewX B og P w) (hs : w.heap.size ≤ w'.heap.size) (hb : ∀ i, B ≤ i → i < w.heap.size → some i ≠ og → w'.heap[i]? = w.heap[i]?) : NewX B og P w' :=
  fun w2 h1 h2 => h w2 (Nat.le_trans hs h1) fun i h3 h4 h5 => (h2 i h3 (Nat.lt_of_lt_of_le h4 hs) h5).trans (hb i h3 h4 h5)
theorem NewX.move {B : Nat} {og og' : Option Nat} {P : World → Prop} {w w' : World} (h : NewX B og P w) (hs : w.heap.size ≤ w'.heap.size) (hb : ∀ i, B ≤ i → i < w.heap.size → some i ≠ og → w'.heap[i]? = w.heap[i]?) (ho : og' = og ∨ ∃ n, og' = some n ∧ w.heap.size ≤ n) : NewX B og' P w' :=
  fun w2 h1 h2 => h w2 (Nat.le_trans hs h1) fun i h3 h4 h5 => (h2 i h3 (Nat.lt_of_lt_of_le h4 hs) (by
    rcases ho with rfl | ⟨n, rfl, hn⟩
    · exact h5
    · intro e
      have := Option.some.inj e
      omega)).trans (hb i h3 h4 h5)

/-- A row of fields from block B on; their subfields lie in new blocks besides. -/
def FN (B : Nat) (v : Value) (L : List Fld) (w : World) : Prop :=
  ∃ us : List Value, us.length = L.length ∧ w.ownsRow B 57 4 v L.length (cellsF L us) ∧ ∀ i, i < L.length → NewX B v.ownBlock (QL (us.getD i .nilIface) (L.getD i fd0).subs) w
theorem FN.nil (B : Nat) (w : World) : FN B (.slice none 0 0) [] w := ⟨[], rfl, World.ownsRow_nil _ _ _ _, fun i hi => by cases hi⟩
theorem FN.on {B : Nat} {v : Value} {L : List Fld} {w w' : World} (h : FN B v L w) (hs : w.heap.size ≤ w'.heap.size) (hb : ∀ i, B ≤ i → i < w.heap.size → w'.heap[i]? = w.heap[i]?) : FN B v L w' := by
  obtain ⟨us, h1, h2, h3⟩ := h
  exact ⟨us, h1, own_same h2 hb, fun i hi => (h3 i hi).on hs (fun j hj hk _ => hb j hj hk)⟩
theorem FN.fl {B : Nat} {v : Value} {L : List Fld} {w : World} (h : FN B v L w) : FL v L w := by
  obtain ⟨us, hl, hown, hq⟩ := h
  rcases hown.2 with ⟨rfl, h0⟩ | ⟨g, cap, cur, rfl, hb, hg, hc, hm, hs, ht⟩
  · have : L = [] := List.eq_nil_of_length_eq_zero h0
    subst this
    exact ⟨none, 0, rfl, Nat.le_refl _, Nat.zero_le _, fun _ => rfl, fun i hi => by cases hi⟩
  · have hadd : ∀ j, (⟨g, 0, none⟩ : Addr).add j = ⟨g, j, none⟩ := fun j => by unfold Addr.add; split <;> simp_all
    refine ⟨_, cap, rfl, hc, hm, (fun h => by cases h), fun i hi => ?_⟩
    have hcc := cellsF_at L us i hl hi
    have t0 := hown.cells (g := g) rfl _ _ hcc.1
    have t1 := hown.cells (g := g) rfl _ _ hcc.2.1
    have t2 := hown.cells (g := g) rfl _ _ hcc.2.2.1
    have t3 := hown.cells (g := g) rfl _ _ hcc.2.2.2
    rw [hadd] at t0 t1 t2 t3
    refine ⟨g, 0, us.getD i .nilIface, rfl, (Array.getElem?_eq_some_iff.1 hg).1, ?_⟩
    rw [Nat.zero_add]
    exact ⟨t0, t1, t2, t3, (hq i hi) w (Nat.le_refl _) (fun _ _ _ _ => rfl)⟩
theorem FN.new {B : Nat} {v : Value} {L : List Fld} {w : World} (h : FN B v L w) : New B (FL v L) w := fun _ hs hb => (h.on hs hb).fl
/-- What the walk needs for an append, and the longer row. -/
theorem FN.open {B : Nat} {v : Value} {L : List Fld} {w : World} (h : FN B v L w) :
    ∃ xs : List Value, w.ownsRow B 57 4 v L.length xs ∧ ∀ (f : Fld) (u v' : Value) (w' : World), NewX B v.ownBlock (QL u f.subs) w → w.grownBy w' v.ownBlock → (v'.ownBlock = v.ownBlock ∨ v'.ownBlock = some w.heap.size) →
      w'.ownsRow B 57 4 v' (L.length + 1) (xs ++ encF f u) → FN B v' (L ++ [f]) w' := by
  obtain ⟨us, hl, hown, hq⟩ := h
  refine ⟨_, hown, fun f u v' w' hu hg hb hown' => ⟨us ++ [u], by rw [List.length_append, List.length_append, hl]; rfl, ?_, fun i hi => ?_⟩⟩
  · rw [cellsF_snoc L us f u hl, List.length_append]
    exact hown'
  · have hmv : ∀ {P : World → Prop}, NewX B v.ownBlock P w → NewX B v'.ownBlock P w' := fun hp => hp.move hg.size (fun j _ hk hne => hg.block j hk hne) (hb.imp id fun h => ⟨_, h, Nat.le_refl _⟩)
    rw [getD_app, getD_appF, hl]
    by_cases h1 : i < L.length
    · rw [if_pos h1, if_pos h1]; exact hmv (hq i h1)
    · have : i = L.length := by rw [List.length_append] at hi; simp at hi; omega
      subst this
      rw [if_neg h1, if_neg h1, Nat.sub_self]
      exact hmv hu

/-- A slice of these records. -/
def RL (v : Value) (L : List Rec) (w : World) : Prop :=
  ∃ a cap, v = .slice a L.length cap ∧ L.length ≤ cap ∧ cap ≤ maxLen ∧ (a = none → cap = 0) ∧ ∀ i, i < L.length → ∃ g o u, a = some ⟨g, o, none⟩ ∧ g < w.heap.size ∧
    w.cell? ⟨g, o + i * 5, none⟩ = some (.int .i64 (L.getD i rec0).id) ∧ w.cell? ⟨g, o + i * 5 + 1, none⟩ = some (.int .i64 (L.getD i rec0).ver) ∧ w.cell? ⟨g, o + i * 5 + 2, none⟩ = some (.int .i64 (L.getD i rec0).kind) ∧
    w.cell? ⟨g, o + i * 5 + 3, none⟩ = some (.string (S (L.getD i rec0).lang)) ∧ w.cell? ⟨g, o + i * 5 + 4, none⟩ = some u ∧ FL u (L.getD i rec0).fields w
theorem RL.nil (w : World) : RL (.slice none 0 0) [] w := ⟨none, 0, rfl, Nat.le_refl _, Nat.zero_le _, fun _ => rfl, fun i hi => by cases hi⟩
theorem RL.after {v : Value} {L : List Rec} {w w' : World} (h : RL v L w) (hb : Below w.heap.size w w') : RL v L w' := by
  obtain ⟨a, cap, rfl, hc, hm, hn, hx⟩ := h
  refine ⟨a, cap, rfl, hc, hm, hn, fun i hi => ?_⟩
  obtain ⟨g, o, u, rfl, hg, h0, h1, h2, h3, h4, hq⟩ := hx i hi
  exact ⟨g, o, u, rfl, Nat.lt_of_lt_of_le hg hb.size, (hb.cell (p := ⟨g, o + i * 5, none⟩) hg).trans h0, (hb.cell (p := ⟨g, o + i * 5 + 1, none⟩) hg).trans h1,
    (hb.cell (p := ⟨g, o + i * 5 + 2, none⟩) hg).trans h2, (hb.cell (p := ⟨g, o + i * 5 + 3, none⟩) hg).trans h3, (hb.cell (p := ⟨g, o + i * 5 + 4, none⟩) hg).trans h4, hq.after hb⟩
theorem RL.length {v : Value} {L : List Rec} {w : World} (h : RL v L w) : ∃ a cap, v = .slice a L.length cap ∧ L.length ≤ cap ∧ cap ≤ maxLen := by
  obtain ⟨a, cap, h1, h2, h3, _⟩ := h
  exact ⟨a, cap, h1, h2, h3⟩
theorem RL.at {v : Value} {L : List Rec} {w : World} (h : RL v L w) (k : Nat) (hk : k < L.length) : ∃ g o cap u, v = .slice (some ⟨g, o, none⟩) L.length cap ∧ g < w.heap.size ∧
    w.cell? ⟨g, o + k * 5, none⟩ = some (.int .i64 (L.getD k rec0).id) ∧ w.cell? ⟨g, o + k * 5 + 1, none⟩ = some (.int .i64 (L.getD k rec0).ver) ∧ w.cell? ⟨g, o + k * 5 + 2, none⟩ = some (.int .i64 (L.getD k rec0).kind) ∧
    w.cell? ⟨g, o + k * 5 + 3, none⟩ = some (.string (S (L.getD k rec0).lang)) ∧ w.cell? ⟨g, o + k * 5 + 4, none⟩ = some u ∧ FL u (L.getD k rec0).fields w := by
  obtain ⟨a, cap, rfl, hc, hm, hn, hx⟩ := h
  obtain ⟨g, o, u, rfl, hh⟩ := hx k hk
  exact ⟨g, o, cap, u, rfl, hh⟩

/-! Rows of the call's own. -/
def encR (r : Rec) (u : Value) : List Value := [.int .i64 r.id, .int .i64 r.ver, .int .i64 r.kind, .string (S r.lang), u]
def cellsR : List Rec → List Value → List Value
  | r :: t, u :: us => encR r u ++ cellsR t us
  | _, _ => []
theorem cellsR_app : ∀ (L : List Rec) (us : List Value) (M : List Rec) (vs : List Value), us.length = L.length → cellsR (L ++ M) (us ++ vs) = cellsR L us ++ cellsR M vs
  | [], [], M, vs, _ => by simp [cellsR]
  | a :: s, x :: xs, M, vs, h => by
    have := cellsR_app s xs M vs (by simpa using h)
    simp only [List.cons_append, cellsR, this, List.append_assoc]
theorem cellsR_snoc (L : List Rec) (us : List Value) (f : Rec) (u : Value) (h : us.length = L.length) : cellsR (L ++ [f]) (us ++ [u]) = cellsR L us ++ encR f u := by
  rw [cellsR_app L us [f] [u] h]
  simp [cellsR]
theorem cellsR_at : ∀ (L : List Rec) (us : List Value) (i : Nat), us.length = L.length → i < L.length → (cellsR L us)[i * 5]? = some (.int .i64 (L.getD i rec0).id) ∧ (cellsR L us)[i * 5 + 1]? = some (.int .i64 (L.getD i rec0).ver) ∧
    (cellsR L us)[i * 5 + 2]? = some (.int .i64 (L.getD i rec0).kind) ∧ (cellsR L us)[i * 5 + 3]? = some (.string (S (L.getD i rec0).lang)) ∧ (cellsR L us)[i * 5 + 4]? = some (us.getD i .nilIface)
  | [], _, _, _, h => by cases h
  | a :: s, x :: xs, 0, _, _ => ⟨rfl, rfl, rfl, rfl, rfl⟩
  | a :: s, x :: xs, i + 1, hl, h => by
    have := cellsR_at s xs i (by simpa using hl) (by simpa using h)
    have e : cellsR (a :: s) (x :: xs) = .int .i64 a.id :: .int .i64 a.ver :: .int .i64 a.kind :: .string (S a.lang) :: x :: cellsR s xs := rfl
    rw [e, show (i + 1) * 5 = i * 5 + 1 + 1 + 1 + 1 + 1 by omega]
    simp only [List.getElem?_cons_succ]
    exact this
theorem cellsR_length : ∀ (L : List Rec) (us : List Value), us.length = L.length → (cellsR L us).length = L.length * 5
  | [], _, _ => by simp [cellsR]
  | f :: t, u :: us, h => by
    have := cellsR_length t us (by simpa using h)
    simp only [cellsR, List.length_append, this, encR, List.length_cons, List.length_nil]
    omega
theorem cellsR_news {g : Nat} {w : World} : ∀ (L : List Rec) (us : List Value) (o : Nat), us.length = L.length →
    (∀ i, i < L.length → w.cell? ⟨g, o + i * 5, none⟩ = some (.int .i64 (L.getD i rec0).id) ∧ w.cell? ⟨g, o + i * 5 + 1, none⟩ = some (.int .i64 (L.getD i rec0).ver) ∧ w.cell? ⟨g, o + i * 5 + 2, none⟩ = some (.int .i64 (L.getD i rec0).kind) ∧
      w.cell? ⟨g, o + i * 5 + 3, none⟩ = some (.string (S (L.getD i rec0).lang)) ∧ w.cell? ⟨g, o + i * 5 + 4, none⟩ = some (us.getD i .nilIface)) →
    ∀ j u, (cellsR L us)[j]? = some u → w.cell? ⟨g, o + j, none⟩ = some u
  | [], _, _, _, _, j, u, hu => by simp [cellsR] at hu
  | f :: t, x :: xs, o, hl, h, j, u, hu => by
    have e : cellsR (f :: t) (x :: xs) = .int .i64 f.id :: .int .i64 f.ver :: .int .i64 f.kind :: .string (S f.lang) :: x :: cellsR t xs := rfl
    rw [e] at hu
    have h0 := h 0 (by simp)
    match j, hu with
    | 0, hu => simp at hu; subst hu; simpa using h0.1
    | 1, hu => simp at hu; subst hu; simpa using h0.2.1
    | 2, hu => simp at hu; subst hu; simpa using h0.2.2.1
    | 3, hu => simp at hu; subst hu; simpa using h0.2.2.2.1
    | 4, hu => simp at hu; subst hu; simpa using h0.2.2.2.2
    | j + 5, hu =>
      simp only [List.getElem?_cons_succ] at hu
      have := cellsR_news t xs (o + 5) (by simpa using hl) (fun i hi => by
        have := h (i + 1) (by simpa using hi)
        rw [show o + (i + 1) * 5 = o + 5 + i * 5 by omega] at this
        exact this) j u hu
      rwa [show o + 5 + j = o + (j + 5) by omega] at this
theorem FL.one {u : Value} {L : List Fld} {w : World} (h : FL u L w) : u.oneCell' = true := by
  obtain ⟨a, cap, rfl, _⟩ := h
  rfl
theorem encR_one (r : Rec) (u : Value) (h : u.oneCell' = true) : ∀ x ∈ encR r u, x.oneCell' = true := by
  intro x hx
  simp only [encR, List.mem_cons, List.not_mem_nil, or_false] at hx
  rcases hx with rfl | rfl | rfl | rfl | rfl
  · rfl
  · rfl
  · rfl
  · rfl
  · exact h
theorem cellsR_one : ∀ (L : List Rec) (us : List Value), (∀ u ∈ us, u.oneCell' = true) → ∀ u ∈ cellsR L us, u.oneCell' = true
  | [], _, _, u, hu => by simp [cellsR] at hu
  | f :: t, [], _, u, hu => by simp [cellsR] at hu
  | f :: t, x :: xs, h, u, hu => by
    rw [cellsR, List.mem_append] at hu
    rcases hu with hu | hu
    · exact encR_one f x (h x (by simp)) u hu
    · exact cellsR_one t xs (fun y hy => h y (List.mem_cons_of_mem _ hy)) u hu
theorem getD_appR (us vs : List Rec) (i : Nat) : (us ++ vs).getD i rec0 = if i < us.length then us.getD i rec0 else vs.getD (i - us.length) rec0 := by
  rw [List.getD_eq_getElem?_getD]
  by_cases h : i < us.length
  · rw [if_pos h, List.getElem?_append_left h, List.getD_eq_getElem?_getD]
  · rw [if_neg h, List.getElem?_append_right (by omega), List.getD_eq_getElem?_getD]
/-- A row whose nested rows are these is a slice of the records. -/
theorem row_rl {B : Nat} {v : Value} {L : List Rec} {us : List Value} {w : World} (hl : us.length = L.length) (hown : w.ownsRow B 33 5 v L.length (cellsR L us))
    (hq : ∀ i, i < L.length → FL (us.getD i .nilIface) (L.getD i rec0).fields w) : RL v L w := by
  rcases hown.2 with ⟨rfl, h0⟩ | ⟨g, cap, cur, rfl, hb, hg, hc, hm, hs, ht⟩
  · have : L = [] := List.eq_nil_of_length_eq_zero h0
    subst this
    exact RL.nil w
  · have hadd : ∀ j, (⟨g, 0, none⟩ : Addr).add j = ⟨g, j, none⟩ := fun j => by unfold Addr.add; split <;> simp_all
    refine ⟨_, cap, rfl, hc, hm, (fun h => by cases h), fun i hi => ?_⟩
    obtain ⟨h0, h1, h2, h3, h4⟩ := cellsR_at L us i hl hi
    have t0 := hown.cells (g := g) rfl _ _ h0
    have t1 := hown.cells (g := g) rfl _ _ h1
    have t2 := hown.cells (g := g) rfl _ _ h2
    have t3 := hown.cells (g := g) rfl _ _ h3
    have t4 := hown.cells (g := g) rfl _ _ h4
    rw [hadd] at t0 t1 t2 t3 t4
    refine ⟨g, 0, us.getD i .nilIface, rfl, (Array.getElem?_eq_some_iff.1 hg).1, ?_⟩
    rw [Nat.zero_add]
    exact ⟨t0, t1, t2, t3, t4, hq i hi⟩

/-- A row of records from block B on; their fields lie in new blocks besides. -/
def RN (B : Nat) (v : Value) (L : List Rec) (w : World) : Prop :=
  ∃ us : List Value, us.length = L.length ∧ w.ownsRow B 33 5 v L.length (cellsR L us) ∧ ∀ i, i < L.length → NewX B v.ownBlock (FL (us.getD i .nilIface) (L.getD i rec0).fields) w
theorem RN.nil (B : Nat) (w : World) : RN B (.slice none 0 0) [] w := ⟨[], rfl, World.ownsRow_nil _ _ _ _, fun i hi => by cases hi⟩
theorem RN.on {B : Nat} {v : Value} {L : List Rec} {w w' : World} (h : RN B v L w) (hs : w.heap.size ≤ w'.heap.size) (hb : ∀ i, B ≤ i → i < w.heap.size → w'.heap[i]? = w.heap[i]?) : RN B v L w' := by
  obtain ⟨us, h1, h2, h3⟩ := h
  exact ⟨us, h1, own_same h2 hb, fun i hi => (h3 i hi).on hs (fun j hj hk _ => hb j hj hk)⟩
theorem RN.after {B : Nat} {v : Value} {L : List Rec} {w w' : World} (h : RN B v L w) (hb : Below w.heap.size w w') : RN B v L w' := h.on hb.size fun i _ hi => hb.block i hi
theorem RN.rl {B : Nat} {v : Value} {L : List Rec} {w : World} (h : RN B v L w) : RL v L w := by
  obtain ⟨us, hl, hown, hq⟩ := h
  exact row_rl hl hown fun i hi => (hq i hi) w (Nat.le_refl _) (fun _ _ _ _ => rfl)
theorem RN.new {B : Nat} {v : Value} {L : List Rec} {w : World} (h : RN B v L w) : New B (RL v L) w := fun _ hs hb => (h.on hs hb).rl
theorem RN.open {B : Nat} {v : Value} {L : List Rec} {w : World} (h : RN B v L w) :
    ∃ xs : List Value, w.ownsRow B 33 5 v L.length xs ∧ ∀ (f : Rec) (u v' : Value) (w' : World), NewX B v.ownBlock (FL u f.fields) w → w.grownBy w' v.ownBlock → (v'.ownBlock = v.ownBlock ∨ v'.ownBlock = some w.heap.size) →
      w'.ownsRow B 33 5 v' (L.length + 1) (xs ++ encR f u) → RN B v' (L ++ [f]) w' := by
  obtain ⟨us, hl, hown, hq⟩ := h
  refine ⟨_, hown, fun f u v' w' hu hg hb hown' => ⟨us ++ [u], by rw [List.length_append, List.length_append, hl]; rfl, ?_, fun i hi => ?_⟩⟩
  · rw [cellsR_snoc L us f u hl, List.length_append]
    exact hown'
  · have hmv : ∀ {P : World → Prop}, NewX B v.ownBlock P w → NewX B v'.ownBlock P w' := fun hp => hp.move hg.size (fun j _ hk hne => hg.block j hk hne) (hb.imp id fun h => ⟨_, h, Nat.le_refl _⟩)
    rw [getD_app, getD_appR, hl]
    by_cases h1 : i < L.length
    · rw [if_pos h1, if_pos h1]; exact hmv (hq i h1)
    · have : i = L.length := by rw [List.length_append] at hi; simp at hi; omega
      subst this
      rw [if_neg h1, if_neg h1, Nat.sub_self]
      exact hmv hu

/-- A row of records of the call's own, from block B on, nil while it is empty; their fields lie in W0. -/
def RR (W0 : World) (B : Nat) (v : Value) (L : List Rec) (w : World) : Prop :=
  ∃ us : List Value, us.length = L.length ∧ w.ownsRow B 33 5 v L.length (cellsR L us) ∧ ∀ i, i < L.length → FL (us.getD i .nilIface) (L.getD i rec0).fields W0
theorem RR.nil (W0 w : World) (B : Nat) : RR W0 B (.slice none 0 0) [] w := ⟨[], rfl, World.ownsRow_nil _ _ _ _, fun i hi => by cases hi⟩
theorem RR.rl {W0 : World} {B : Nat} {v : Value} {L : List Rec} {w : World} (h : RR W0 B v L w) (hbel : Below W0.heap.size W0 w) : RL v L w := by
  obtain ⟨us, hl, hown, hq⟩ := h
  exact row_rl hl hown fun i hi => (hq i hi).after hbel
theorem RR.after {W0 : World} {B : Nat} {v : Value} {L : List Rec} {w w' : World} (h : RR W0 B v L w) (hb : Below w.heap.size w w') : RR W0 B v L w' := by
  obtain ⟨us, h1, h2, h3⟩ := h
  exact ⟨us, h1, own_after h2 hb, h3⟩
theorem RR.open {W0 : World} {B : Nat} {v : Value} {L : List Rec} {w : World} (h : RR W0 B v L w) :
    ∃ xs : List Value, w.ownsRow B 33 5 v L.length xs ∧ ∀ (M : List Rec) (vs : List Value) (v' : Value) (w' : World), vs.length = M.length → (∀ i, i < M.length → FL (vs.getD i .nilIface) (M.getD i rec0).fields W0) →
      w'.ownsRow B 33 5 v' (L.length + M.length) (xs ++ cellsR M vs) → RR W0 B v' (L ++ M) w' := by
  obtain ⟨us, hl, hown, hq⟩ := h
  refine ⟨_, hown, fun M vs v' w' hvl hvq hown' => ⟨us ++ vs, by rw [List.length_append, List.length_append, hl, hvl], ?_, fun i hi => ?_⟩⟩
  · rw [cellsR_app L us M vs hl, List.length_append]
    exact hown'
  · rw [getD_app, getD_appR, hl]
    by_cases h1 : i < L.length
    · rw [if_pos h1, if_pos h1]; exact hq i h1
    · rw [if_neg h1, if_neg h1]; exact hvq _ (by rw [List.length_append] at hi; omega)
/-- The fields' values of a slice of records. -/
theorem RL.vals {v : Value} {L : List Rec} {w : World} (h : RL v L w) : ∃ (a : Option Addr) (cap : Nat) (us : List Value), v = .slice a L.length cap ∧ L.length ≤ cap ∧ cap ≤ maxLen ∧ (a = none → cap = 0) ∧ us.length = L.length ∧ (∀ i, i < L.length → FL (us.getD i .nilIface) (L.getD i rec0).fields w) ∧
    ∀ g o s, a = some ⟨g, o, s⟩ → L ≠ [] → s = none ∧ g < w.heap.size ∧ ∀ j u, (cellsR L us)[j]? = some u → w.cell? ⟨g, o + j, none⟩ = some u := by
  obtain ⟨a, cap, rfl, hc, hm, hn, hx⟩ := h
  have hch : ∀ i, ∃ u, i < L.length → ∃ g o, a = some ⟨g, o, none⟩ ∧ g < w.heap.size ∧ (w.cell? ⟨g, o + i * 5, none⟩ = some (.int .i64 (L.getD i rec0).id) ∧ w.cell? ⟨g, o + i * 5 + 1, none⟩ = some (.int .i64 (L.getD i rec0).ver) ∧ w.cell? ⟨g, o + i * 5 + 2, none⟩ = some (.int .i64 (L.getD i rec0).kind) ∧
      w.cell? ⟨g, o + i * 5 + 3, none⟩ = some (.string (S (L.getD i rec0).lang)) ∧ w.cell? ⟨g, o + i * 5 + 4, none⟩ = some u) ∧ FL u (L.getD i rec0).fields w := by
    intro i
    by_cases hi : i < L.length
    · obtain ⟨g, o, u, h1, hg, h0, h2, h3, h4, h5, hq⟩ := hx i hi
      exact ⟨u, fun _ => ⟨g, o, h1, hg, ⟨h0, h2, h3, h4, h5⟩, hq⟩⟩
    · exact ⟨.nilIface, fun h => absurd h hi⟩
  obtain ⟨F, hF⟩ : ∃ F : Nat → Value, ∀ i, i < L.length → ∃ g o, a = some ⟨g, o, none⟩ ∧ g < w.heap.size ∧ (w.cell? ⟨g, o + i * 5, none⟩ = some (.int .i64 (L.getD i rec0).id) ∧ w.cell? ⟨g, o + i * 5 + 1, none⟩ = some (.int .i64 (L.getD i rec0).ver) ∧ w.cell? ⟨g, o + i * 5 + 2, none⟩ = some (.int .i64 (L.getD i rec0).kind) ∧
      w.cell? ⟨g, o + i * 5 + 3, none⟩ = some (.string (S (L.getD i rec0).lang)) ∧ w.cell? ⟨g, o + i * 5 + 4, none⟩ = some (F i)) ∧ FL (F i) (L.getD i rec0).fields w := ⟨fun i => Classical.choose (hch i), fun i => Classical.choose_spec (hch i)⟩
  have hg : ∀ i, i < L.length → ((List.range L.length).map F).getD i .nilIface = F i := fun i hi => by
    rw [List.getD_eq_getElem?_getD, List.getElem?_map, List.getElem?_range hi]
    simp
  refine ⟨a, cap, (List.range L.length).map F, rfl, hc, hm, hn, by simp, fun i hi => ?_, fun g o s ha hne => ?_⟩
  · rw [hg i hi]
    obtain ⟨g, o, _, _, _, hq⟩ := hF i hi
    exact hq
  · have h0 : 0 < L.length := List.length_pos_iff.2 hne
    obtain ⟨g', o', h1, h2, _⟩ := hF 0 h0
    rw [h1] at ha
    obtain ⟨rfl, rfl, rfl⟩ : g' = g ∧ o' = o ∧ none = s := by
      have := Option.some.inj ha
      injection this with a1 a2 a3
      exact ⟨a1, a2, a3⟩
    refine ⟨rfl, h2, cellsR_news L _ _ (by simp) fun i hi => ?_⟩
    obtain ⟨g2, o2, h3, _, h5, _⟩ := hF i hi
    rw [h1] at h3
    have := Option.some.inj h3
    injection this with a1 a2 a3
    subst a1
    subst a2
    rw [hg i hi]
    exact h5
theorem infoRec : (Tryz.prog.info? 33).map (fun i => (i.zero, i.size, i.bytes)) = some (some (.agg #[.int .i64 0, .int .i64 0, .int .i64 0, .string ⟨#[]⟩, .slice none 0 0]), 5, 64) := by kernel_rfl
theorem info_rec : ∃ i0, Tryz.prog.info? 33 = some i0 ∧ i0.zero = some (.agg #[.int .i64 0, .int .i64 0, .int .i64 0, .string ⟨#[]⟩, .slice none 0 0]) ∧ i0.size = 5 ∧ i0.bytes = 64 := by
  obtain ⟨i0, h0, h2⟩ := Option.map_eq_some_iff.1 infoRec
  simp only [Prod.mk.injEq] at h2
  exact ⟨i0, h0, h2.1, h2.2.1, h2.2.2⟩
theorem cells_five (w : World) (a b c d e : Value) (t : TypeId) : ∀ j u, [a, b, c, d, e][j]? = some u → (w.alloc (.cells #[a, b, c, d, e] t)).cell? ((⟨w.heap.size, 0, none⟩ : Addr).add j) = some u := by
  intro j u hj
  match j, hj with
  | 0, hj => simp at hj; subst hj; simp [Addr.add]
  | 1, hj => simp at hj; subst hj; simp [Addr.add]
  | 2, hj => simp at hj; subst hj; simp [Addr.add]
  | 3, hj => simp at hj; subst hj; simp [Addr.add]
  | 4, hj => simp at hj; subst hj; simp [Addr.add]
  | (j + 5), hj => simp at hj
def RCells (N : Nat) (id ver kind : Int) (lang : ByteArray) (fv : Value) (wr : World) : Prop :=
  (wr.cell? ⟨N, 0, none⟩ = some (.int .i64 id) ∧ wr.cell? ⟨N, 1, none⟩ = some (.int .i64 ver) ∧ wr.cell? ⟨N, 2, none⟩ = some (.int .i64 kind) ∧ wr.cell? ⟨N, 3, none⟩ = some (.string lang) ∧ wr.cell? ⟨N, 4, none⟩ = some fv) ∧
  (wr.frozen? ⟨N, 0, none⟩ = false ∧ wr.frozen? ⟨N, 1, none⟩ = false ∧ wr.frozen? ⟨N, 2, none⟩ = false ∧ wr.frozen? ⟨N, 3, none⟩ = false ∧ wr.frozen? ⟨N, 4, none⟩ = false)
theorem rcells {N : Nat} {id ver kind : Int} {lang : ByteArray} {fv : Value} {wr : World} (h : wr.heap[N]? = some (.cells #[.int .i64 id, .int .i64 ver, .int .i64 kind, .string lang, fv] 33 (0, 0))) : RCells N id ver kind lang fv wr := by
  refine ⟨⟨?_, ?_, ?_, ?_, ?_⟩, Lib.frozen_of_heap h 0, Lib.frozen_of_heap h 1, Lib.frozen_of_heap h 2, Lib.frozen_of_heap h 3, Lib.frozen_of_heap h 4⟩ <;> (rw [Lib.cell_of_heap h]; rfl)
theorem results_row_tmp10 {P : Program} {fn : Func} {p u : Tmp} {ty : TypeId} (h : fn.results = #[.cell p ty, .tmp u]) (tmps : Array Value) (w : World) (g : Nat) (t : TypeId) (cs : Array Value) (fr : Nat × Nat) (d : TypeDesc)
    (hp : tmps.getD p undef = .pointer (some ⟨g, 0, none⟩)) (hg : w.heap[g]? = some (.cells cs t fr))
    (hu : P.underlying ty = some d) (hd : (match d with | .struct _ | .array _ _ => true | _ => false) = true) (hi : (P.info? ty).map (·.size) = some cs.size) :
    (results fn tmps).run P w = .ok (.tuple #[.agg cs, tmps.getD u undef]) w := by
  rw [results_cell_tmp h, hp]
  simp [asAddr, run_loadVar_row w g t ty cs fr d hg hu hd hi, Result.andThen]
/-- A record stored in its box. -/
def setR5 (w : World) (b : Nat) (x0 x1 x2 x3 x4 : Value) : World := ((((w.setCell ⟨b, 0, none⟩ x0).setCell ⟨b, 1, none⟩ x1).setCell ⟨b, 2, none⟩ x2).setCell ⟨b, 3, none⟩ x3).setCell ⟨b, 4, none⟩ x4
theorem rec_set5 {w : World} {b : Nat} {c0 c1 c2 c3 c4 x0 x1 x2 x3 x4 : Value} (h : w.heap[b]? = some (.cells #[c0, c1, c2, c3, c4] 33 (0, 0))) :
    (setR5 w b x0 x1 x2 x3 x4).heap[b]? = some (.cells #[x0, x1, x2, x3, x4] 33 (0, 0)) := by
  simp [setR5, World.setCell, Array.getElem?_modify, h]
theorem rec_other {w : World} {b : Nat} {x0 x1 x2 x3 x4 : Value} (i : Nat) (h : i ≠ b) : (setR5 w b x0 x1 x2 x3 x4).heap[i]? = w.heap[i]? := by
  unfold setR5
  rw [heap_setn _ _ _ _ (by exact h), heap_setn _ _ _ _ (by exact h), heap_setn _ _ _ _ (by exact h), heap_setn _ _ _ _ (by exact h), heap_setn _ _ _ _ (by exact h)]
theorem rec_below5 {w W : World} {b : Nat} {x0 x1 x2 x3 x4 : Value} (h : Below b w W) : Below b w (setR5 W b x0 x1 x2 x3 x4) :=
  ((((h.setCell (p := ⟨b, 0, none⟩) (Nat.le_refl _) x0).setCell (p := ⟨b, 1, none⟩) (Nat.le_refl _) x1).setCell (p := ⟨b, 2, none⟩) (Nat.le_refl _) x2).setCell (p := ⟨b, 3, none⟩) (Nat.le_refl _) x3).setCell (p := ⟨b, 4, none⟩) (Nat.le_refl _) x4
theorem rec_size {w : World} {b : Nat} {x0 x1 x2 x3 x4 : Value} : (setR5 w b x0 x1 x2 x3 x4).heap.size = w.heap.size := by simp [setR5, World.setCell]
theorem fl_none (B : Nat) (w : World) : New B (FL (.slice none 0 0) []) w := fun _ _ _ => ⟨none, 0, rfl, Nat.le_refl _, Nat.zero_le _, fun _ => rfl, fun i hi => by cases hi⟩
end

end Go.Proofs.YtfjfpefpdlecbaaGreatDoor
