/- libraryref01.Texts over any lists; librarylaw07.small. -/
import Derived.Test.YtjajihemcaihmaaGreatDoorR07K
import Derived.RegionTactic
import Derived.BigRegion
namespace Go.Proofs.YtjajihemcaihmaaGreatDoor
open Go.RowKit Go.PlainAid

theorem texts_ext (A B : List (List UInt8)) (hl : A.length = B.length) (h : ∀ i, i < A.length → A.getD i [] = B.getD i []) : A = B := by
  refine List.ext_getElem hl fun i h1 h2 => ?_
  have := h i h1
  rwa [List.getD_eq_getElem?_getD, List.getD_eq_getElem?_getD, List.getElem?_eq_getElem h1, List.getElem?_eq_getElem h2] at this

set_option maxHeartbeats 8000000 in
theorem refTexts_any (A B : List (List UInt8)) (va vb : Value) (w : World) (hA : BL va A w) (hB : BL vb B w) (b : Bool) (hb : decide (A = B) = b) :
    Calls Tryz.prog 10 #[va, vb] w fun e w' => e = .returned (.bool b) ∧ Below w.heap.size w w' := by
  obtain ⟨a, ca, rfl, hca, hma, _, hcA⟩ := hA
  obtain ⟨b', cb, rfl, hcb, hmb, _, hcB⟩ := hB
  unfold maxLen at hma hmb
  have HCA := Lib.hid hcA
  have HCB := Lib.hid hcB
  have HE := Lib.hid (fun h : A = B => congrArg List.length h)
  have HX := Lib.hid (texts_ext A B)
  have HBB := Lib.hid hb
  clear hb
  obtain ⟨n, hn⟩ : ∃ n, A.length = n := ⟨_, rfl⟩
  obtain ⟨m, hm⟩ : ∃ m, B.length = m := ⟨_, rfl⟩
  have HN := Lib.hid hn
  have HM := Lib.hid hm
  rw [hn] at hca ⊢
  rw [hm] at hcb ⊢
  clear hcA hcB hn hm
  by_cases hnm : n = m
  · subst hnm
    have t0 : ((n : Int) != (n : Int)) = false := by simp
    go_enter Tryz.func10, Tryz.ntmps10
    go_wp2
    go_loopw [5] (fun i wr => ∃ k : Nat, k ≤ n ∧ i = .int .i64 (k : Int) ∧ RowKit.Hid (∀ j, j < k → A.getD j [] = B.getD j []) ∧ Below w.heap.size w wr) (fun i _ => n - (intOf i).toNat)
    case atStart => exact ⟨0, Nat.zero_le _, rfl, (fun j hj => by omega), Below.refl _ _⟩
    case round =>
      obtain ⟨k, hk, rfl, HJ, hbw⟩ := hrel
      by_cases hkn : k < n
      · obtain ⟨ga, oa, rfl, hga, c1⟩ := HCA.out k (by rw [HN.out]; exact hkn)
        obtain ⟨gb, ob, rfl, hgb, c2⟩ := HCB.out k (by rw [HM.out]; exact hkn)
        have c1 : wr.cell? ⟨ga, oa + k, none⟩ = some (.string (S (A.getD k []))) := (hbw.cell (p := ⟨ga, oa + k, none⟩) hga).trans c1
        have c2 : wr.cell? ⟨gb, ob + k, none⟩ = some (.string (S (B.getD k []))) := (hbw.cell (p := ⟨gb, ob + k, none⟩) hgb).trans c2
        have i1 : (0 : Int) ≤ (k : Int) := by omega
        have i2 : (k : Int) < (n : Int) := by omega
        have hq := S_eq (A.getD k []) (B.getD k [])
        by_cases he : A.getD k [] = B.getD k []
        · rw [decide_eq_true he] at hq
          have HJ2 : RowKit.Hid (∀ j, j < k + 1 → A.getD j [] = B.getD j []) := by
            intro j hj
            rcases Nat.lt_or_ge j k with h | h
            · exact HJ.out j h
            · rw [show j = k by omega]; exact he
          clear he HJ
          generalize S (A.getD k []) = x at *
          generalize S (B.getD k []) = y at *
          go_wp2
          go_region
          all_goals
            go_wp2
            go_roundw
            case rel => exact ⟨k + 1, by omega, by go_num, HJ2, hbw.drew⟩
            case measure => simp [intOf]; omega
        · rw [decide_eq_false he] at hq
          obtain rfl : b = false := by rw [← HBB.out]; exact decide_eq_false (fun h => he (by rw [h]))
          clear he HJ
          generalize S (A.getD k []) = x at *
          generalize S (B.getD k []) = y at *
          go_wp2
          go_region
          all_goals
            go_wp2
            go_ret
            exact ⟨rfl, hbw.drew⟩
      · obtain rfl : k = n := by omega
        have hab : A = B := HX.out (by rw [HN.out, HM.out]) (fun j hj => HJ.out j (by rw [HN.out] at hj; exact hj))
        obtain rfl : b = true := by rw [← HBB.out]; exact decide_eq_true hab
        clear hab
        go_wp2
        go_ret
        exact ⟨rfl, hbw⟩
  · have t0 : ((n : Int) != (m : Int)) = true := by simp; omega
    obtain rfl : b = false := by rw [← HBB.out]; exact decide_eq_false (fun h => hnm (by have := HE.out h; rw [HN.out, HM.out] at this; exact this))
    go_enter Tryz.func10, Tryz.ntmps10
    go_wp2
    go_ret
    exact ⟨rfl, Below.refl _ _⟩

/-- A field of moderate size. -/
def smallB (f : Fld) : Bool := decide (f.subs.length ≤ 30) && decide (f.tag.length ≤ 300) && decide (f.ind.length ≤ 300) && (List.range f.subs.length).all fun i => decide ((f.subs.getD i sub0).2.length ≤ 300)
theorem small_of (f : Fld) (h : smallB f = true) : f.subs.length ≤ 30 ∧ f.tag.length ≤ 300 ∧ f.ind.length ≤ 300 ∧ ∀ i, i < f.subs.length → (f.subs.getD i sub0).2.length ≤ 300 := by
  unfold smallB at h
  simp only [Bool.and_eq_true, decide_eq_true_eq, List.all_eq_true, List.mem_range] at h
  exact ⟨h.1.1.1, h.1.1.2, h.1.2, h.2⟩

end Go.Proofs.YtjajihemcaihmaaGreatDoor
