/- libraryref06: Same, Small. -/
import Derived.Test.YtdaoccmhehekaaaDoorR06C
namespace Go.Proofs.YtdaoccmhehekaaaDoor
open Go.RowKit Go.PlainAid

theorem S_eq (a b : List UInt8) : ((S a).toList == (S b).toList) = decide (a = b) := by
  rw [ByteArray.toList_eq, ByteArray.toList_eq]
  show (a == b) = _
  by_cases h : a = b
  · simp [h]
  · simp [h]
theorem list_ext (A B : List (List UInt8)) (hl : A.length = B.length) (h : ∀ i, i < A.length → A.getD i [] = B.getD i []) : A = B := by
  refine List.ext_getElem hl fun i h1 h2 => ?_
  have := h i h1
  rwa [List.getD_eq_getElem?_getD, List.getD_eq_getElem?_getD, List.getElem?_eq_getElem h1, List.getElem?_eq_getElem h2] at this

set_option maxHeartbeats 8000000 in
theorem refSame_any (A B : List (List UInt8)) (va vb : Value) (w : World) (hA : BL va A w) (hB : BL vb B w) (b : Bool) (hb : decide (A = B) = b) :
    Calls Tryd.prog 22 #[va, vb] w fun e w' => e = .returned (.bool b) ∧ Below w.heap.size w w' := by
  obtain ⟨a, ca, rfl, hca, hma, _, hcA⟩ := hA
  obtain ⟨b', cb, rfl, hcb, hmb, _, hcB⟩ := hB
  unfold maxLen at hma hmb
  have HCA := Lib.hid hcA
  have HCB := Lib.hid hcB
  have HE := Lib.hid (fun h : A = B => congrArg List.length h)
  have HX := Lib.hid (list_ext A B)
  have HBB := Lib.hid hb
  clear hb
  obtain ⟨n, hn⟩ : ∃ n, A.length = n := ⟨_, rfl⟩
  obtain ⟨m, hm⟩ : ∃ m, B.length = m := ⟨_, rfl⟩
  have HN := Lib.hid hn
  have HM := Lib.hid hm
  rw [hn] at hca ⊢
  rw [hm] at hcb ⊢
  clear hcA hcB hn hm
  by_cases hnm : n = m
  · subst hnm
    have t0 : ((n : Int) != (n : Int)) = false := by simp
    go_enter Tryd.func22, Tryd.ntmps22
    go_wp2
    go_loopw [5] (fun i wr => ∃ k : Nat, k ≤ n ∧ i = .int .i64 (k : Int) ∧ RowKit.Hid (∀ j, j < k → A.getD j [] = B.getD j []) ∧ Below w.heap.size w wr) (fun i _ => n - (intOf i).toNat)
    case atStart => exact ⟨0, Nat.zero_le _, rfl, (fun j hj => by omega), Below.refl _ _⟩
    case round =>
      obtain ⟨k, hk, rfl, HJ, hbw⟩ := hrel
      by_cases hkn : k < n
      · obtain ⟨ga, oa, rfl, hga, c1⟩ := HCA.out k (by rw [HN.out]; exact hkn)
        obtain ⟨gb, ob, rfl, hgb, c2⟩ := HCB.out k (by rw [HM.out]; exact hkn)
        have c1 : wr.cell? ⟨ga, oa + k, none⟩ = some (.string (S (A.getD k []))) := (hbw.cell (p := ⟨ga, oa + k, none⟩) hga).trans c1
        have c2 : wr.cell? ⟨gb, ob + k, none⟩ = some (.string (S (B.getD k []))) := (hbw.cell (p := ⟨gb, ob + k, none⟩) hgb).trans c2
        have i1 : (0 : Int) ≤ (k : Int) := by omega
        have i2 : (k : Int) < (n : Int) := by omega
        have hq := S_eq (A.getD k []) (B.getD k [])
        by_cases he : A.getD k [] = B.getD k []
        · rw [decide_eq_true he] at hq
          have HJ2 : RowKit.Hid (∀ j, j < k + 1 → A.getD j [] = B.getD j []) := by
            intro j hj
            rcases Nat.lt_or_ge j k with h | h
            · exact HJ.out j h
            · rw [show j = k by omega]; exact he
          clear he HJ
          generalize S (A.getD k []) = x at *
          generalize S (B.getD k []) = y at *
          go_wp2
          go_region
          all_goals
            go_wp2
            go_roundw
            case rel => exact ⟨k + 1, by omega, by go_num, HJ2, hbw.drew⟩
            case measure => simp [intOf]; omega
        · rw [decide_eq_false he] at hq
          obtain rfl : b = false := by rw [← HBB.out]; exact decide_eq_false (fun h => he (by rw [h]))
          clear he HJ
          generalize S (A.getD k []) = x at *
          generalize S (B.getD k []) = y at *
          go_wp2
          go_region
          all_goals
            go_wp2
            go_ret
            exact ⟨rfl, hbw.drew⟩
      · obtain rfl : k = n := by omega
        have hab : A = B := HX.out (by rw [HN.out, HM.out]) (fun j hj => HJ.out j (by rw [HN.out] at hj; exact hj))
        obtain rfl : b = true := by rw [← HBB.out]; exact decide_eq_true hab
        clear hab
        go_wp2
        go_ret
        exact ⟨rfl, hbw⟩
  · have t0 : ((n : Int) != (m : Int)) = true := by simp; omega
    obtain rfl : b = false := by rw [← HBB.out]; exact decide_eq_false (fun h => hnm (by have := HE.out h; rw [HN.out, HM.out] at this; exact this))
    go_enter Tryd.func22, Tryd.ntmps22
    go_wp2
    go_ret
    exact ⟨rfl, Below.refl _ _⟩

def sizes (L : List (List UInt8)) (k : Nat) : Nat := ((L.take k).map List.length).sum
theorem sizes_succ (L : List (List UInt8)) (k : Nat) (h : k < L.length) : sizes L (k + 1) = sizes L k + (L.getD k []).length := by
  unfold sizes
  rw [take_at L k h, List.map_append, List.sum_append]
  simp
def smallB (L : List (List UInt8)) : Bool := decide (L.length ≤ 60) && L.all (fun x => decide (x.length ≤ 1000)) && decide (sizes L L.length ≤ 20000)
theorem small_of (L : List (List UInt8)) (h : smallB L = true) : L.length ≤ 60 ∧ ∀ i, i < L.length → (L.getD i []).length ≤ 1000 := by
  unfold smallB at h
  simp only [Bool.and_eq_true, decide_eq_true_eq, List.all_eq_true] at h
  refine ⟨h.1.1, fun i hi => ?_⟩
  rw [List.getD_eq_getElem?_getD, List.getElem?_eq_getElem hi]
  exact h.1.2 _ (List.getElem_mem hi)

set_option maxHeartbeats 8000000 in
theorem refSmall_any (L : List (List UInt8)) (v : Value) (w : World) (hv : BL v L w) (b : Bool) (hb : smallB L = b) :
    Calls Tryd.prog 17 #[v] w fun e w' => e = .returned (.bool b) ∧ w' = w := by
  obtain ⟨a, cap, rfl, hcap, hmax, _, hcell⟩ := hv
  unfold maxLen at hmax
  have HCell := Lib.hid hcell
  have HB := Lib.hid hb
  obtain ⟨n, hN⟩ : ∃ n, L.length = n := ⟨_, rfl⟩
  have HN := Lib.hid hN
  rw [hN] at hcap ⊢
  clear hN hcell hb
  by_cases h60 : 60 < n
  · have d1 : decide ((60 : Int) < (n : Int)) = true := by simp; omega
    obtain rfl : b = false := by
      rw [← HB.out]
      unfold smallB
      rw [HN.out, decide_eq_false (by omega)]
      rfl
    go_enter Tryd.func17, Tryd.ntmps17
    go_wp2
    go_ret
    exact ⟨rfl, rfl⟩
  · have d1 : decide ((60 : Int) < (n : Int)) = false := by simp; omega
    go_enter Tryd.func17, Tryd.ntmps17
    go_wp2
    go_loopw [3, 4] (fun s i wr => ∃ k : Nat, k ≤ n ∧ i = .int .i64 (k : Int) ∧ s = .int .i64 ((sizes L k : Nat) : Int) ∧ RowKit.Hid (∀ j, j < k → (L.getD j []).length ≤ 1000) ∧ sizes L k ≤ 1000 * k ∧ w = wr) (fun _ i _ => n - (intOf i).toNat)
    case atStart => exact ⟨0, Nat.zero_le _, rfl, rfl, (fun j hj => by omega), Nat.le_refl _, rfl⟩
    case round =>
      obtain ⟨k, hk, rfl, rfl, HJ, hsum, rfl⟩ := hrel
      by_cases hkn : k < n
      · obtain ⟨g, o, rfl, hg, hc0⟩ := HCell.out k (by rw [HN.out]; exact hkn)
        have hc : w.cell? ⟨g, o + k, none⟩ = some (.string (S (L.getD k []))) := hc0
        have HS := Lib.hid (sizes_succ L k (by rw [HN.out]; exact hkn))
        have hxz : (S (L.getD k [])).size = (L.getD k []).length := S_size _
        have i1 : (0 : Int) ≤ (k : Int) := by omega
        have i2 : (k : Int) < (n : Int) := by omega
        by_cases h1000 : 1000 < (L.getD k []).length
        · have d2 : decide ((1000 : Int) < (((L.getD k []).length : Nat) : Int)) = true := by simp only [decide_eq_true_eq]; omega
          obtain rfl : b = false := by
            rw [← HB.out]
            unfold smallB
            have : L.all (fun x => decide (x.length ≤ 1000)) = false := by
              rw [List.all_eq_false]
              have hkl : k < L.length := by rw [HN.out]; exact hkn
              refine ⟨L[k], List.getElem_mem hkl, ?_⟩
              rw [List.getD_eq_getElem?_getD, List.getElem?_eq_getElem hkl] at h1000
              simp at h1000 ⊢
              exact h1000
            rw [this, Bool.and_false, Bool.false_and]
          clear HS hc0
          generalize S (L.getD k []) = x at *
          generalize (L.getD k []).length = lx at *
          go_wp2
          go_ret
          exact ⟨rfl, rfl⟩
        · have d2 : decide ((1000 : Int) < (((L.getD k []).length : Nat) : Int)) = false := by simp only [decide_eq_false_iff_not]; omega
          have HJ2 : RowKit.Hid (∀ j, j < k + 1 → (L.getD j []).length ≤ 1000) := by
            intro j hj
            rcases Nat.lt_or_ge j k with h | h
            · exact HJ.out j h
            · rw [show j = k by omega]; omega
          clear HJ hc0
          generalize S (L.getD k []) = x at *
          generalize (L.getD k []).length = lx at *
          generalize sizes L k = sk at *
          go_wp2
          go_roundw
          case rel => exact ⟨k + 1, by omega, by go_num, by rw [HS.out]; go_num, HJ2, by rw [HS.out]; omega, trivial⟩
          case measure => simp [intOf]; omega
      · obtain rfl : k = n := by omega
        have hb2 : b = decide (sizes L k ≤ 20000) := by
          rw [← HB.out]
          unfold smallB
          have h1 : L.all (fun x => decide (x.length ≤ 1000)) = true := by
            rw [List.all_eq_true]
            intro x hx
            obtain ⟨i, hi, rfl⟩ := List.getElem_of_mem hx
            have := HJ.out i (by rw [← HN.out]; exact hi)
            rw [List.getD_eq_getElem?_getD, List.getElem?_eq_getElem hi] at this
            exact decide_eq_true this
          rw [h1, HN.out, decide_eq_true (by omega : k ≤ 60)]
          rfl
        have t1 : decide (((sizes L k : Nat) : Int) ≤ 20000) = b := by
          rw [hb2, decide_eq_decide]; omega
        clear hb2
        generalize sizes L k = sk at *
        go_wp2
        go_ret
        exact ⟨rfl, rfl⟩
end Go.Proofs.YtdaoccmhehekaaaDoor
