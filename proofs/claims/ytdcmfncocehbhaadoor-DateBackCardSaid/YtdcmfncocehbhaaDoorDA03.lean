/- Package date: leap, Length, yearStart, exists, yearOf, Weekday, at every argument of theirs. -/
import Derived.Test.YtdcmfncocehbhaaDoorTab03
namespace Go.Proofs.YtdcmfncocehbhaaDoor
open Go.RowKit

set_option maxHeartbeats 4000000 in
theorem datLeap_any (y : Nat) (w : World) :
    Calls Tryd.prog 30 #[.int .i64 (y : Int)] w fun e w' => e = .returned (.bool (leap y)) ∧ w' = w := by
  have m1 : Int.tmod (y : Int) 4 = ((y % 4 : Nat) : Int) := by rw [Int.tmod_eq_emod_of_nonneg (by omega)]; omega
  have m2 : (y : Int) % 4 = ((y % 4 : Nat) : Int) := by omega
  by_cases h4 : y % 4 = 0
  · by_cases h5 : y = 1900
    · subst h5
      go_enter Tryd.func30, Tryd.ntmps30
      go_wp2
      go_ret
      exact ⟨rfl, rfl⟩
    by_cases h6 : y = 2100
    · subst h6
      go_enter Tryd.func30, Tryd.ntmps30
      go_wp2
      go_ret
      exact ⟨rfl, rfl⟩
    have e : leap y = true := by unfold leap; simp [h4, h5, h6]
    rw [e]
    have q1 : (((y % 4 : Nat) : Int) == 0) = true := by rw [h4]; rfl
    have q2 : ((y : Int) == 1900) = false := by simp; omega
    have q3 : ((y : Int) == 2100) = false := by simp; omega
    have q4 : ((y : Int) != 1900) = true := by rw [bne, q2]; rfl
    have q5 : ((y : Int) != 2100) = true := by rw [bne, q3]; rfl
    clear e h4 h5 h6
    generalize y % 4 = r at m1 m2 q1
    go_enter Tryd.func30, Tryd.ntmps30
    go_wp2
    go_ret
    exact ⟨rfl, rfl⟩
  · have e : leap y = false := by unfold leap; simp [h4]
    rw [e]
    have q1 : (((y % 4 : Nat) : Int) == 0) = false := by simp; omega
    clear e h4
    generalize y % 4 = r at m1 m2 q1
    go_enter Tryd.func30, Tryd.ntmps30
    go_wp2
    go_ret
    exact ⟨rfl, rfl⟩

set_option maxHeartbeats 4000000 in
theorem dlen_out (y m : Int) (h : ¬ (1900 ≤ y ∧ y ≤ 2199 ∧ 1 ≤ m ∧ m ≤ 12)) (w : World) :
    Calls Tryd.prog 15 #[.int .i64 y, .int .i64 m] w fun e w' => e = .returned (.int .i64 0) ∧ w' = w := by
  by_cases h1 : y < 1900
  · have d1 : decide (y < 1900) = true := by simp; omega
    go_enter Tryd.func15, Tryd.ntmps15
    go_wp2
    go_ret
    exact ⟨rfl, rfl⟩
  have d1 : decide (y < 1900) = false := by simp; omega
  by_cases h2 : 2199 < y
  · have d2 : decide (2199 < y) = true := by simp; omega
    go_enter Tryd.func15, Tryd.ntmps15
    go_wp2
    go_ret
    exact ⟨rfl, rfl⟩
  have d2 : decide (2199 < y) = false := by simp; omega
  by_cases h3 : m < 1
  · have d3 : decide (m < 1) = true := by simp; omega
    go_enter Tryd.func15, Tryd.ntmps15
    go_wp2
    go_ret
    exact ⟨rfl, rfl⟩
  have d3 : decide (m < 1) = false := by simp; omega
  have d4 : decide (12 < m) = true := by simp; omega
  go_enter Tryd.func15, Tryd.ntmps15
  go_wp2
  go_ret
  exact ⟨rfl, rfl⟩

set_option maxHeartbeats 4000000 in
theorem dlen_feb (y : Nat) (h0 : 1900 ≤ y) (h1 : y ≤ 2199) (w : World) (hT : Tab w) :
    Calls Tryd.prog 15 #[.int .i64 (y : Int), .int .i64 2] w fun e w' => e = .returned (.int .i64 (mlen y 2 : Nat)) ∧ w' = w := by
  have d1 : decide ((y : Int) < 1900) = false := by simp; omega
  have d2 : decide ((2199 : Int) < (y : Int)) = false := by simp; omega
  have c1 := Lib.hid (fun W => datLeap_any y W)
  have k1 := hT.len 1 (by decide)
  rw [show lensT.getD 1 0 = 28 from rfl] at k1
  unfold mlen
  cases hl : leap y
  · rw [show mdays false 2 = 28 from rfl]
    rw [hl] at c1
    clear hT hl
    go_enter Tryd.func15, Tryd.ntmps15
    go_wp2_with fail
    refine (c1.out _).mono ?_
    rintro e w1 ⟨rfl, rfl⟩
    go_wp2
    go_ret
    exact ⟨rfl, rfl⟩
  · rw [show mdays true 2 = 29 from rfl]
    rw [hl] at c1
    clear hT hl
    go_enter Tryd.func15, Tryd.ntmps15
    go_wp2_with fail
    refine (c1.out _).mono ?_
    rintro e w1 ⟨rfl, rfl⟩
    go_wp2
    go_ret
    exact ⟨rfl, rfl⟩

set_option maxHeartbeats 4000000 in
theorem dlen_other (y : Nat) (h0 : 1900 ≤ y) (h1 : y ≤ 2199) (m : Nat) (hm : m = 1 ∨ m = 3 ∨ m = 4 ∨ m = 5 ∨ m = 6 ∨ m = 7 ∨ m = 8 ∨ m = 9 ∨ m = 10 ∨ m = 11 ∨ m = 12) (w : World) (hT : Tab w) :
    Calls Tryd.prog 15 #[.int .i64 (y : Int), .int .i64 (m : Int)] w fun e w' => e = .returned (.int .i64 (mlen y m : Nat)) ∧ w' = w := by
  have d1 : decide ((y : Int) < 1900) = false := by simp; omega
  have d2 : decide ((2199 : Int) < (y : Int)) = false := by simp; omega
  have hk := hT.len
  clear hT
  rcases hm with rfl | rfl | rfl | rfl | rfl | rfl | rfl | rfl | rfl | rfl | rfl
  · have k1 := hk 0 (by decide); rw [show lensT.getD 0 0 = 31 from rfl] at k1; clear hk
    go_enter Tryd.func15, Tryd.ntmps15
    go_wp2
    go_ret
    exact ⟨rfl, rfl⟩
  · have k1 := hk 2 (by decide); rw [show lensT.getD 2 0 = 31 from rfl] at k1; clear hk
    go_enter Tryd.func15, Tryd.ntmps15
    go_wp2
    go_ret
    exact ⟨rfl, rfl⟩
  · have k1 := hk 3 (by decide); rw [show lensT.getD 3 0 = 30 from rfl] at k1; clear hk
    go_enter Tryd.func15, Tryd.ntmps15
    go_wp2
    go_ret
    exact ⟨rfl, rfl⟩
  · have k1 := hk 4 (by decide); rw [show lensT.getD 4 0 = 31 from rfl] at k1; clear hk
    go_enter Tryd.func15, Tryd.ntmps15
    go_wp2
    go_ret
    exact ⟨rfl, rfl⟩
  · have k1 := hk 5 (by decide); rw [show lensT.getD 5 0 = 30 from rfl] at k1; clear hk
    go_enter Tryd.func15, Tryd.ntmps15
    go_wp2
    go_ret
    exact ⟨rfl, rfl⟩
  · have k1 := hk 6 (by decide); rw [show lensT.getD 6 0 = 31 from rfl] at k1; clear hk
    go_enter Tryd.func15, Tryd.ntmps15
    go_wp2
    go_ret
    exact ⟨rfl, rfl⟩
  · have k1 := hk 7 (by decide); rw [show lensT.getD 7 0 = 31 from rfl] at k1; clear hk
    go_enter Tryd.func15, Tryd.ntmps15
    go_wp2
    go_ret
    exact ⟨rfl, rfl⟩
  · have k1 := hk 8 (by decide); rw [show lensT.getD 8 0 = 30 from rfl] at k1; clear hk
    go_enter Tryd.func15, Tryd.ntmps15
    go_wp2
    go_ret
    exact ⟨rfl, rfl⟩
  · have k1 := hk 9 (by decide); rw [show lensT.getD 9 0 = 31 from rfl] at k1; clear hk
    go_enter Tryd.func15, Tryd.ntmps15
    go_wp2
    go_ret
    exact ⟨rfl, rfl⟩
  · have k1 := hk 10 (by decide); rw [show lensT.getD 10 0 = 30 from rfl] at k1; clear hk
    go_enter Tryd.func15, Tryd.ntmps15
    go_wp2
    go_ret
    exact ⟨rfl, rfl⟩
  · have k1 := hk 11 (by decide); rw [show lensT.getD 11 0 = 31 from rfl] at k1; clear hk
    go_enter Tryd.func15, Tryd.ntmps15
    go_wp2
    go_ret
    exact ⟨rfl, rfl⟩

theorem datLength_q (y m r : Int) (hr : lenI y m = r) (w : World) (hT : Tab w) :
    Calls Tryd.prog 15 #[.int .i64 y, .int .i64 m] w fun e w' => e = .returned (.int .i64 r) ∧ w' = w := by
  by_cases h : 1900 ≤ y ∧ y ≤ 2199 ∧ 1 ≤ m ∧ m ≤ 12
  · obtain ⟨h0, h1, h2, h3⟩ := h
    obtain ⟨a, rfl⟩ : ∃ a : Nat, y = (a : Int) := ⟨y.toNat, by omega⟩
    obtain ⟨b, rfl⟩ : ∃ b : Nat, m = (b : Int) := ⟨m.toNat, by omega⟩
    rw [lenI_nat a b (by omega) (by omega) (by omega) (by omega)] at hr
    subst hr
    by_cases hb : b = 2
    · subst hb
      exact dlen_feb a (by omega) (by omega) w hT
    · exact dlen_other a (by omega) (by omega) b (by omega) w hT
  · rw [lenI_out y m h] at hr
    subst hr
    exact dlen_out y m h w

theorem datLength_any (y m r : Int) (hr : lenI y m = r) (w : World) (hT : Tab w) :
    Calls Tryd.prog 15 #[.int .i64 y, .int .i64 m] w fun e w' => e = .returned (.int .i64 r) ∧ Below w.heap.size w w' :=
  (datLength_q y m r hr w hT).mono fun e w' hh => ⟨hh.1, by rw [hh.2]; exact Below.refl _ _⟩

theorem ysum_form : ∀ k, k < 301 → ysum k + (if 200 < k then 1 else 0) = 365 * k + (k - 1) / 4 := by decide +kernel
set_option maxHeartbeats 4000000 in
/-- yearStart at a year of the calendar, or at the one behind it. -/
theorem datYearStart_any (k : Nat) (hk : k ≤ 300) (w : World) :
    Calls Tryd.prog 25 #[.int .i64 ((1900 + k : Nat) : Int)] w fun e w' => e = .returned (.int .i64 (ysum k : Nat)) ∧ w' = w := by
  have hf := ysum_form k (by omega)
  by_cases h0 : k = 0
  · subst h0
    go_enter Tryd.func25, Tryd.ntmps25
    go_wp2
    go_ret
    exact ⟨rfl, rfl⟩
  have q1 : Int.tdiv ((k : Int) - 1) 4 = (((k - 1) / 4 : Nat) : Int) := by rw [Int.tdiv_eq_ediv_of_nonneg (by omega)]; omega
  have q2 : ((k : Int) - 1) / 4 = (((k - 1) / 4 : Nat) : Int) := by omega
  have hq : (k - 1) / 4 ≤ 75 := by omega
  by_cases h1 : 200 < k
  · rw [if_pos h1] at hf
    have d1 : decide ((2100 : Int) < ((1900 + k : Nat) : Int)) = true := by simp; omega
    generalize ysum k = s at *
    generalize (k - 1) / 4 = q at *
    go_enter Tryd.func25, Tryd.ntmps25
    go_wp2
    go_ret
    have e : 365 * (1900 + (k : Int) - 1900) + ((1900 + (k : Int) - 1900 - 1) / 4 - 1) = (s : Int) := by omega
    rw [e]
    exact ⟨rfl, rfl⟩
  · rw [if_neg h1] at hf
    have d1 : decide ((2100 : Int) < ((1900 + k : Nat) : Int)) = false := by simp; omega
    generalize ysum k = s at *
    generalize (k - 1) / 4 = q at *
    go_enter Tryd.func25, Tryd.ntmps25
    go_wp2
    go_ret
    have e : 365 * (1900 + (k : Int) - 1900) + (1900 + (k : Int) - 1900 - 1) / 4 = (s : Int) := by omega
    rw [e]
    exact ⟨rfl, rfl⟩

set_option maxHeartbeats 4000000 in
theorem datExists_any (n : Int) (b : Bool) (hb : (decide (0 ≤ n) && decide (n ≤ 109572)) = b) (w : World) :
    Calls Tryd.prog 27 #[.int .i64 n] w fun e w' => e = .returned (.bool b) ∧ w' = w := by
  subst hb
  by_cases h0 : 0 ≤ n
  · have d0 : decide (0 ≤ n) = true := by simp; omega
    by_cases h1 : n ≤ 109572
    · have d1 : decide (n ≤ 109572) = true := by simp; omega
      rw [d0, d1]
      go_enter Tryd.func27, Tryd.ntmps27
      go_wp2
      go_ret
      exact ⟨rfl, rfl⟩
    · have d1 : decide (n ≤ 109572) = false := by simp; omega
      rw [d0, d1]
      go_enter Tryd.func27, Tryd.ntmps27
      go_wp2
      go_ret
      exact ⟨rfl, rfl⟩
  · have d0 : decide (0 ≤ n) = false := by simp; omega
    rw [d0]
    go_enter Tryd.func27, Tryd.ntmps27
    go_wp2
    go_ret
    exact ⟨rfl, rfl⟩

set_option maxHeartbeats 4000000 in
theorem datWeekday_any (n r : Int) (hr : weekI n = r) (w : World) :
    Calls Tryd.prog 17 #[.int .i64 n] w fun e w' => e = .returned (.int .i64 r) ∧ w' = w := by
  unfold weekI at hr
  by_cases h : 0 ≤ n ∧ n ≤ 109572
  · rw [if_pos h] at hr
    obtain ⟨k, rfl⟩ : ∃ k : Nat, n = (k : Int) := ⟨n.toNat, by omega⟩
    have c1 := Lib.hid (fun W => datExists_any (k : Int) true (by simp; omega) W)
    have m1 : Int.tmod (k : Int) 7 = ((k % 7 : Nat) : Int) := by rw [Int.tmod_eq_emod_of_nonneg (by omega)]; omega
    have m2 : (k : Int) % 7 = ((k % 7 : Nat) : Int) := by omega
    obtain rfl : r = ((k % 7 : Nat) : Int) := by omega
    clear hr
    generalize k % 7 = v at m1 m2
    go_enter Tryd.func17, Tryd.ntmps17
    go_wp2_with fail
    refine (c1.out _).mono ?_
    rintro e w1 ⟨rfl, rfl⟩
    go_wp2
    go_ret
    exact ⟨rfl, rfl⟩
  · rw [if_neg h] at hr
    subst hr
    have c1 := Lib.hid (fun W => datExists_any n false (by simp; omega) W)
    go_enter Tryd.func17, Tryd.ntmps17
    go_wp2_with fail
    refine (c1.out _).mono ?_
    rintro e w1 ⟨rfl, rfl⟩
    go_wp2
    go_ret
    exact ⟨rfl, rfl⟩

theorem ysum_lin (k : Nat) : ysum k ≤ 366 * k := by
  induction k with
  | zero => exact Nat.le_refl _
  | succ k ih =>
    have := ylen_pos (1900 + k)
    show ysum k + ylen (1900 + k) ≤ _
    omega
set_option maxHeartbeats 4000000 in
set_option maxRecDepth 100000 in
theorem datYearOf_any {n y m d : Nat} (h : IsDate n y m d) (w : World) :
    Calls Tryd.prog 28 #[.int .i64 (n : Int)] w fun e w' => e = .returned (.int .i64 (y : Int)) ∧ w' = w := by
  obtain ⟨j, rfl⟩ : ∃ j, y = 1900 + j := ⟨y - 1900, by have := h.y0; omega⟩
  have hj : j ≤ 299 := by have := h.y1; omega
  have hn := h.le
  unfold maxDay at hn
  have hy := h.year
  rw [show 1900 + j - 1900 = j by omega] at hy
  obtain ⟨hy1, hy2⟩ := hy
  have hy3 : n < ysum (j + 1) := hy2
  have hl := ysum_lin (j + 1)
  have h0 : n / 366 ≤ j := by omega
  have q1 : Int.tdiv (n : Int) 366 = ((n / 366 : Nat) : Int) := by rw [Int.tdiv_eq_ediv_of_nonneg (by omega)]; omega
  have q2 : (n : Int) / 366 = ((n / 366 : Nat) : Int) := by omega
  have CY := Lib.hid (fun (k : Nat) (hk : k ≤ 300) W => datYearStart_any k hk W)
  have HY := Lib.hid (fun (k : Nat) (hk : k ≤ j) => ysum_mono k j hk)
  have HB := Lib.hid (fun (k : Nat) (hk : k ≤ 300) => ysum_le k hk)
  clear h hy2 hl
  generalize n / 366 = q at *
  go_enter Tryd.func28, Tryd.ntmps28
  go_wp2
  go_loopw [3] (fun i wr => ∃ k : Nat, k ≤ j ∧ i = .int .i64 ((1900 + k : Nat) : Int) ∧ wr = w) (fun i _ => 1900 + j + 1 - (intOf i).toNat)
  case atStart => exact ⟨q, h0, by show Value.int .i64 _ = _; congr 1, rfl⟩
  case round =>
    obtain ⟨k, hk, rfl, rfl⟩ := hrel
    have cY := Lib.hid (CY.out (k + 1) (by omega))
    have hb := HB.out (k + 1) (by omega)
    by_cases hlt : k < j
    · have hge := HY.out (k + 1) (by omega)
      obtain ⟨s, e2⟩ : ∃ v, ysum (k + 1) = v := ⟨_, rfl⟩
      rw [e2] at cY hb hge
      clear e2
      have d1 : decide (s ≤ n) = true := by simp; omega
      have d2 : s ≤ n := by omega
      have e3 : ((1900 + k : Nat) : Int) + 1 = ((1900 + (k + 1) : Nat) : Int) := by omega
      go_wp2_with fail
      refine (cY.out _).mono ?_
      rintro e w2 ⟨rfl, rfl⟩
      go_wp2
      go_roundw
      case rel => exact ⟨k + 1, by omega, by go_num, trivial⟩
      case measure => simp [intOf]; omega
    · obtain rfl : k = j := by omega
      obtain ⟨s, e2⟩ : ∃ v, ysum (k + 1) = v := ⟨_, rfl⟩
      rw [e2] at cY hb hy3
      clear e2
      have d1 : decide (s ≤ n) = false := by simp; omega
      have d2 : ¬ s ≤ n := by omega
      go_wp2_with fail
      refine (cY.out _).mono ?_
      rintro e w2 ⟨rfl, rfl⟩
      go_wp2
      go_ret
      exact ⟨rfl, rfl⟩
end Go.Proofs.YtdcmfncocehbhaaDoor
