/- Package field: slices.Equal, Same. -/
import Derived.Test.YtjajihemcaihmaaDoorFC07
import Derived.Test.YtjajihemcaihmaaDoorR07E
namespace Go.Proofs.YtjajihemcaihmaaDoor
open Go.RowKit Go.PlainAid

set_option maxHeartbeats 16000000 in
theorem equal_any (L M : List Sub) (u v : Value) (w : World) (hu : QL u L w) (hv : QL v M w) (b : Bool) (hb : decide (L = M) = b) :
    Calls Tryd.prog 34 #[u, v] w fun e w' => e = .returned (.bool b) ∧ Below w.heap.size w w' := by
  obtain ⟨a, cap, rfl, hcap, hmax, _, hcell⟩ := hu
  obtain ⟨a', cap', rfl, hcap', hmax', _, hcell'⟩ := hv
  unfold maxLen at hmax hmax'
  obtain ⟨n, hn⟩ : ∃ n, L.length = n := ⟨_, rfl⟩
  obtain ⟨m, hm⟩ : ∃ m, M.length = m := ⟨_, rfl⟩
  have HCell := Lib.hid hcell
  have HCell' := Lib.hid hcell'
  rw [hn] at hcap ⊢
  rw [hm] at hcap' ⊢
  have HN := Lib.hid hn
  have HM := Lib.hid hm
  have HX := Lib.hid (subs_ext L M)
  have HBB := Lib.hid hb
  clear hcell hcell' hn hm hb
  by_cases hnm : n ≠ m
  · have t : ((n : Int) == (m : Int)) = false := by
      rw [beq_eq_false_iff_ne]
      omega
    obtain rfl : b = false := by
      rw [← HBB.out]
      exact decide_eq_false (fun h => hnm (by rw [← HN.out, ← HM.out, h]))
    have hnm' : ¬ (n : Int) = (m : Int) := by omega
    clear hnm
    go_enter Tryd.func34, Tryd.ntmps34
    go_wp2
    go_ret
    exact ⟨rfl, Below.refl _ _⟩
  obtain rfl : n = m := Decidable.not_not.1 hnm
  clear hnm
  go_enter Tryd.func34, Tryd.ntmps34
  go_wp2
  go_loopw [13] (fun i wr => ∃ k : Nat, k ≤ n ∧ i = .int .i64 (k : Int) ∧ RowKit.Hid (∀ j, j < k → L.getD j sub0 = M.getD j sub0) ∧ Below w.heap.size w wr) (fun i _ => n - (intOf i).toNat)
  case atStart => exact ⟨0, Nat.zero_le _, rfl, (fun j hj => by omega), Below.refl _ _⟩
  case round =>
    obtain ⟨k, hk, rfl, HJ, hbw⟩ := hrel
    by_cases hkn : k < n
    · obtain ⟨ga, oa, rfl, hga, c1, c2⟩ := HCell.out k (by rw [HN.out]; exact hkn)
      obtain ⟨gb, ob, rfl, hgb, d1, d2⟩ := HCell'.out k (by rw [HM.out]; exact hkn)
      have c1 := (hbw.cell (p := ⟨ga, oa + k * 2, none⟩) hga).trans c1
      have c2 := (hbw.cell (p := ⟨ga, oa + k * 2 + 1, none⟩) hga).trans c2
      have d1 := (hbw.cell (p := ⟨gb, ob + k * 2, none⟩) hgb).trans d1
      have d2 := (hbw.cell (p := ⟨gb, ob + k * 2 + 1, none⟩) hgb).trans d2
      have i1 : (0 : Int) ≤ (k : Int) := by omega
      have i2 : (k : Int) < (n : Int) := by omega
      have hq := S_eq (L.getD k sub0).2 (M.getD k sub0).2
      by_cases he : L.getD k sub0 = M.getD k sub0
      · have HJ2 : RowKit.Hid (∀ j, j < k + 1 → L.getD j sub0 = M.getD j sub0) := by
          intro j hj
          rcases Nat.lt_or_ge j k with h | h
          · exact HJ.out j h
          · rw [show j = k by omega]; exact he
        rw [he] at c1 c2 hq
        rw [decide_eq_true rfl] at hq
        clear he HJ
        generalize S (M.getD k sub0).2 = x at *
        generalize (((M.getD k sub0).1.toNat : Nat) : Int) = y at *
        go_wp2
        go_region
        all_goals
          go_wp2
          go_roundw
          case rel => exact ⟨k + 1, by omega, by go_num, HJ2, hbw.drew⟩
          case measure => simp [intOf]; omega
      · obtain rfl : b = false := by rw [← HBB.out]; exact decide_eq_false (fun h => he (by rw [h]))
        have hor : ((((L.getD k sub0).1.toNat : Nat) : Int) == (((M.getD k sub0).1.toNat : Nat) : Int)) = false ∨ decide ((L.getD k sub0).2 = (M.getD k sub0).2) = false := by
          by_cases hc : (L.getD k sub0).1 = (M.getD k sub0).1
          · exact .inr (decide_eq_false (fun h => he (Prod.ext hc h)))
          · have : (L.getD k sub0).1.toNat ≠ (M.getD k sub0).1.toNat := fun h => hc (UInt8.toNat_inj.1 h)
            exact .inl (beq_eq_false_iff_ne.2 (fun h => this (by omega)))
        have Fin := Lib.hid hbw
        have FinD := Lib.hid hbw.drew
        clear he HJ
        generalize decide ((L.getD k sub0).2 = (M.getD k sub0).2) = eqv at *
        generalize S (L.getD k sub0).2 = x at *
        generalize S (M.getD k sub0).2 = x' at *
        generalize (((L.getD k sub0).1.toNat : Nat) : Int) = y at *
        generalize (((M.getD k sub0).1.toNat : Nat) : Int) = y' at *
        rcases hor with ho | ho
        · go_wp2
          go_region
          all_goals
            go_wp2
            go_ret
            exact ⟨rfl, FinD.out⟩
        · rw [ho] at hq
          go_wp2
          go_region
          all_goals
            go_wp2
            go_ret
            exact ⟨rfl, FinD.out⟩
    · obtain rfl : k = n := by omega
      obtain rfl : b = true := by rw [← HBB.out]; exact decide_eq_true (HX.out (by rw [HN.out, HM.out]) (fun j hj => HJ.out j (by rw [HN.out] at hj; exact hj)))
      go_wp2
      go_ret
      exact ⟨rfl, hbw⟩

set_option maxHeartbeats 16000000 in
theorem fSame_any (f g : Fld) (u v : Value) (w : World) (hu : QL u f.subs w) (hv : QL v g.subs w) (b : Bool) (hb : sameB f g = b) :
    Calls Tryd.prog 13 #[FV f u, FV g v] w fun e w' => e = .returned (.bool b) ∧ Below w.heap.size w w' := by
  unfold FV
  unfold sameB at hb
  have HB := Lib.hid hb
  have q1 := S_eq f.tag g.tag
  have q2 := S_eq f.ind g.ind
  obtain ⟨a, cap, rfl, _, _⟩ := hu.length
  obtain ⟨a', cap', rfl, _, _⟩ := hv.length
  obtain ⟨W0, hW0⟩ : ∃ W0, (w.alloc (.cells #[.string (S f.tag), .string (S f.ind), .slice a f.subs.length cap, .int .i64 f.auth] 24)).alloc (.cells #[.string (S g.tag), .string (S g.ind), .slice a' g.subs.length cap', .int .i64 g.auth] 24) = W0 := ⟨_, rfl⟩
  have b1 := (Below.refl w.heap.size w).alloc (Nat.le_refl _) (.cells #[.string (S f.tag), .string (S f.ind), .slice a f.subs.length cap, .int .i64 f.auth] 24)
  have b0 : Below w.heap.size w W0 := by rw [← hW0]; exact b1.alloc (by simp) _
  have hlt : w.heap.size + 1 < W0.heap.size := by rw [← hW0]; simp
  have k0 : W0.cell? ⟨w.heap.size, 0, none⟩ = some (.string (S f.tag)) := by rw [← hW0]; simp
  have k1 : W0.cell? ⟨w.heap.size, 1, none⟩ = some (.string (S f.ind)) := by rw [← hW0]; simp
  have k2 : W0.cell? ⟨w.heap.size, 2, none⟩ = some (.slice a f.subs.length cap) := by rw [← hW0]; simp
  have k3 : W0.cell? ⟨w.heap.size, 3, none⟩ = some (.int .i64 f.auth) := by rw [← hW0]; simp
  have l0 : W0.cell? ⟨w.heap.size + 1, 0, none⟩ = some (.string (S g.tag)) := by rw [← hW0]; simp
  have l1 : W0.cell? ⟨w.heap.size + 1, 1, none⟩ = some (.string (S g.ind)) := by rw [← hW0]; simp
  have l2 : W0.cell? ⟨w.heap.size + 1, 2, none⟩ = some (.slice a' g.subs.length cap') := by rw [← hW0]; simp
  have l3 : W0.cell? ⟨w.heap.size + 1, 3, none⟩ = some (.int .i64 g.auth) := by rw [← hW0]; simp
  have cE := Lib.hid (fun c hc => equal_any f.subs g.subs _ _ W0 (hu.after b0) (hv.after b0) c hc)
  have HW0 := Lib.hid hW0
  clear hW0 b1 hu hv hb
  by_cases h1 : f.tag ≠ g.tag
  · rw [decide_eq_false h1] at q1
    obtain rfl : b = false := by rw [← HB.out, decide_eq_false h1]; rfl
    clear h1
    go_enter Tryd.func13, Tryd.ntmps13
    go_wp2
    go_ret
    rw [HW0.out]
    exact ⟨rfl, b0⟩
  have h1 : f.tag = g.tag := Decidable.not_not.1 h1
  rw [decide_eq_true h1] at q1
  by_cases h2 : f.ind ≠ g.ind
  · rw [decide_eq_false h2] at q2
    obtain rfl : b = false := by rw [← HB.out, decide_eq_false h2, Bool.and_false]; rfl
    clear h1 h2
    go_enter Tryd.func13, Tryd.ntmps13
    go_wp2
    go_ret
    rw [HW0.out]
    exact ⟨rfl, b0⟩
  have h2 : f.ind = g.ind := Decidable.not_not.1 h2
  rw [decide_eq_true h2] at q2
  by_cases h3 : f.auth ≠ g.auth
  · have t3 : (f.auth == g.auth) = false := beq_eq_false_iff_ne.2 h3
    obtain rfl : b = false := by rw [← HB.out, decide_eq_false h3, Bool.and_false]; rfl
    clear h1 h2 h3
    go_enter Tryd.func13, Tryd.ntmps13
    go_wp2
    go_ret
    rw [HW0.out]
    exact ⟨rfl, b0⟩
  have h3 : f.auth = g.auth := Decidable.not_not.1 h3
  have hE := cE.out b (by rw [← HB.out, decide_eq_true h1, decide_eq_true h2, decide_eq_true h3]; rfl)
  rw [h3] at HW0 k3 ⊢
  have t3 : (g.auth == g.auth) = true := by simp
  clear h1 h2 h3 cE
  go_enter Tryd.func13, Tryd.ntmps13
  go_wp2_with fail
  rw [HW0.out]
  refine hE.mono ?_
  rintro e w1 ⟨rfl, hb⟩
  have b2 := b0.trans (hb.mono b0.size)
  go_wp2
  go_ret
  exact ⟨rfl, b2⟩
end Go.Proofs.YtjajihemcaihmaaDoor
