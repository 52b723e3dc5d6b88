/- libraryref03.Length, Year, Is, Weekday, at every number. -/
import Derived.Test.YtdcmfncocehbhaaDoorProg
import Derived.Test.YtdcmfncocehbhaaDoorPlain03
import Derived.Lib.Hide
import Derived.Below
import Derived.WalkKit
import Derived.BigCall
namespace Go.Proofs.YtdcmfncocehbhaaDoor
open Go.RowKit

/-- The length of a month, 0 where there is none. -/
def lenI (y m : Int) : Int := if 1900 ≤ y ∧ y ≤ 2199 ∧ 1 ≤ m ∧ m ≤ 12 then (mlen y.toNat m.toNat : Int) else 0
theorem lenI_nat (y m : Nat) (h0 : 1900 ≤ y) (h1 : y ≤ 2199) (h2 : 1 ≤ m) (h3 : m ≤ 12) : lenI (y : Int) (m : Int) = (mlen y m : Int) := by
  unfold lenI
  rw [if_pos (by omega)]
  rfl
theorem lenI_out (y m : Int) (h : ¬ (1900 ≤ y ∧ y ≤ 2199 ∧ 1 ≤ m ∧ m ≤ 12)) : lenI y m = 0 := if_neg h
theorem lenI_range (y m : Int) : 0 ≤ lenI y m ∧ lenI y m ≤ 31 := by
  unfold lenI
  split
  · have := mdays_pos (leap y.toNat) m.toNat
    unfold mlen
    omega
  · omega

set_option maxHeartbeats 4000000 in
theorem len_out (y m : Int) (h : ¬ (1900 ≤ y ∧ y ≤ 2199 ∧ 1 ≤ m ∧ m ≤ 12)) (w : World) :
    Calls Tryd.prog 16 #[.int .i64 y, .int .i64 m] w fun e w' => e = .returned (.int .i64 0) ∧ Below w.heap.size w w' := by
  by_cases h1 : y < 1900
  · have d1 : decide (y < 1900) = true := by simp; omega
    go_enter Tryd.func16, Tryd.ntmps16
    go_wp2
    go_ret
    exact ⟨rfl, Below.refl _ _⟩
  have d1 : decide (y < 1900) = false := by simp; omega
  by_cases h2 : 2199 < y
  · have d2 : decide (2199 < y) = true := by simp; omega
    go_enter Tryd.func16, Tryd.ntmps16
    go_wp2
    go_ret
    exact ⟨rfl, Below.refl _ _⟩
  have d2 : decide (2199 < y) = false := by simp; omega
  by_cases h3 : m < 1
  · have d3 : decide (m < 1) = true := by simp; omega
    go_enter Tryd.func16, Tryd.ntmps16
    go_wp2
    go_ret
    exact ⟨rfl, Below.refl _ _⟩
  have d3 : decide (m < 1) = false := by simp; omega
  have d4 : decide (12 < m) = true := by simp; omega
  go_enter Tryd.func16, Tryd.ntmps16
  go_wp2
  go_ret
  exact ⟨rfl, Below.refl _ _⟩

set_option maxHeartbeats 4000000 in
theorem len_feb (y : Nat) (h0 : 1900 ≤ y) (h1 : y ≤ 2199) (w : World) :
    Calls Tryd.prog 16 #[.int .i64 (y : Int), .int .i64 2] w fun e w' => e = .returned (.int .i64 (mlen y 2 : Nat)) ∧ Below w.heap.size w w' := by
  have d1 : decide ((y : Int) < 1900) = false := by simp; omega
  have d2 : decide ((2199 : Int) < (y : Int)) = false := by simp; omega
  have m1 : Int.tmod (y : Int) 4 = ((y % 4 : Nat) : Int) := by rw [Int.tmod_eq_emod_of_nonneg (by omega)]; omega
  have m2 : (y : Int) % 4 = ((y % 4 : Nat) : Int) := by omega
  by_cases h4 : y % 4 = 0
  · by_cases h5 : y = 1900
    · subst h5
      go_enter Tryd.func16, Tryd.ntmps16
      go_wp2
      go_ret
      exact ⟨rfl, (Below.refl _ w).alloc (Nat.le_refl _) _⟩
    by_cases h6 : y = 2100
    · subst h6
      go_enter Tryd.func16, Tryd.ntmps16
      go_wp2
      go_ret
      exact ⟨rfl, (Below.refl _ w).alloc (Nat.le_refl _) _⟩
    have e : mlen y 2 = 29 := by unfold mlen mdays leap; simp [h4, h5, h6]
    rw [e]
    have q1 : (((y % 4 : Nat) : Int) == 0) = true := by rw [h4]; rfl
    have q2 : ((y : Int) == 1900) = false := by simp; omega
    have q3 : ((y : Int) == 2100) = false := by simp; omega
    have q4 : ((y : Int) != 1900) = true := by rw [bne, q2]; rfl
    have q5 : ((y : Int) != 2100) = true := by rw [bne, q3]; rfl
    clear e h4 h5 h6
    generalize y % 4 = r at m1 m2 q1
    go_enter Tryd.func16, Tryd.ntmps16
    go_wp2
    go_ret
    exact ⟨rfl, Below.refl _ _⟩
  · have e : mlen y 2 = 28 := by unfold mlen mdays leap; simp [h4]
    rw [e]
    have q1 : (((y % 4 : Nat) : Int) == 0) = false := by simp; omega
    clear e h4
    generalize y % 4 = r at m1 m2 q1
    go_enter Tryd.func16, Tryd.ntmps16
    go_wp2
    go_ret
    exact ⟨rfl, (Below.refl _ w).alloc (Nat.le_refl _) _⟩

set_option maxHeartbeats 4000000 in
theorem len_other (y : Nat) (h0 : 1900 ≤ y) (h1 : y ≤ 2199) (m : Nat) (hm : m = 1 ∨ m = 3 ∨ m = 4 ∨ m = 5 ∨ m = 6 ∨ m = 7 ∨ m = 8 ∨ m = 9 ∨ m = 10 ∨ m = 11 ∨ m = 12) (w : World) :
    Calls Tryd.prog 16 #[.int .i64 (y : Int), .int .i64 (m : Int)] w fun e w' => e = .returned (.int .i64 (mlen y m : Nat)) ∧ Below w.heap.size w w' := by
  have d1 : decide ((y : Int) < 1900) = false := by simp; omega
  have d2 : decide ((2199 : Int) < (y : Int)) = false := by simp; omega
  rcases hm with rfl | rfl | rfl | rfl | rfl | rfl | rfl | rfl | rfl | rfl | rfl
  all_goals
    go_enter Tryd.func16, Tryd.ntmps16
    go_wp2
    go_ret
    exact ⟨rfl, (Below.refl _ w).alloc (Nat.le_refl _) _⟩

theorem refLength_any (y m r : Int) (hr : lenI y m = r) (w : World) :
    Calls Tryd.prog 16 #[.int .i64 y, .int .i64 m] w fun e w' => e = .returned (.int .i64 r) ∧ Below w.heap.size w w' := by
  by_cases h : 1900 ≤ y ∧ y ≤ 2199 ∧ 1 ≤ m ∧ m ≤ 12
  · obtain ⟨h0, h1, h2, h3⟩ := h
    obtain ⟨a, rfl⟩ : ∃ a : Nat, y = (a : Int) := ⟨y.toNat, by omega⟩
    obtain ⟨b, rfl⟩ : ∃ b : Nat, m = (b : Int) := ⟨m.toNat, by omega⟩
    rw [lenI_nat a b (by omega) (by omega) (by omega) (by omega)] at hr
    subst hr
    by_cases hb : b = 2
    · subst hb
      exact len_feb a (by omega) (by omega) w
    · exact len_other a (by omega) (by omega) b (by omega) w
  · rw [lenI_out y m h] at hr
    subst hr
    exact len_out y m h w

/-- The days of a year; 365 where there is none. -/
def yearI (y : Int) : Int := if lenI y 2 = 29 then 366 else 365
theorem yearI_nat (y : Nat) (h0 : 1900 ≤ y) (h1 : y ≤ 2199) : yearI (y : Int) = (ylen y : Int) := by
  unfold yearI
  have := lenI_nat y 2 h0 h1 (by decide) (by decide)
  rw [show ((2 : Nat) : Int) = 2 from rfl] at this
  rw [this]
  unfold mlen mdays ylen
  cases leap y <;> rfl
set_option maxHeartbeats 4000000 in
theorem refYear_any (y r : Int) (hr : yearI y = r) (w : World) :
    Calls Tryd.prog 26 #[.int .i64 y] w fun e w' => e = .returned (.int .i64 r) ∧ Below w.heap.size w w' := by
  have c1 := Lib.hid (fun W => refLength_any y 2 _ rfl W)
  unfold yearI at hr
  generalize lenI y 2 = l at c1 hr
  by_cases h : l = 29
  · rw [if_pos h] at hr
    subst h hr
    go_enter Tryd.func26, Tryd.ntmps26
    go_wp2_with fail
    refine (c1.out _).mono ?_
    rintro e w1 ⟨rfl, b1⟩
    go_wp2
    go_ret
    exact ⟨rfl, b1⟩
  · rw [if_neg h] at hr
    subst hr
    have d : (l == 29) = false := by simpa using h
    clear h
    go_enter Tryd.func26, Tryd.ntmps26
    go_wp2_with fail
    refine (c1.out _).mono ?_
    rintro e w1 ⟨rfl, b1⟩
    go_wp2
    go_ret
    exact ⟨rfl, b1⟩

theorem refIs_any (n : Int) (b : Bool) (hb : (decide (0 ≤ n) && decide (n ≤ 109572)) = b) (w : World) :
    Calls Tryd.prog 29 #[.int .i64 n] w fun e w' => e = .returned (.bool b) ∧ w' = w := by
  cases h1 : decide (0 ≤ n)
  · rw [h1] at hb
    obtain rfl : b = false := hb.symm
    go_enter Tryd.func29, Tryd.ntmps29
    go_wp2
    go_ret
    exact ⟨rfl, rfl⟩
  · cases h2 : decide (n ≤ 109572)
    all_goals
      rw [h1, h2] at hb
      obtain rfl := hb.symm
      go_enter Tryd.func29, Tryd.ntmps29
      go_wp2
      go_ret
      exact ⟨rfl, rfl⟩

/-- The weekday of a day. -/
def weekI (n : Int) : Int := if 0 ≤ n ∧ n ≤ 109572 then ((n.toNat % 7 : Nat) : Int) else -1
theorem refWeekday_any (n r : Int) (hr : weekI n = r) (w : World) :
    Calls Tryd.prog 18 #[.int .i64 n] w fun e w' => e = .returned (.int .i64 r) ∧ w' = w := by
  unfold weekI at hr
  by_cases h : 0 ≤ n ∧ n ≤ 109572
  · rw [if_pos h] at hr
    have c1 := Lib.hid (fun W => refIs_any n true (by simp [h.1, h.2]) W)
    obtain ⟨k, rfl⟩ : ∃ k : Nat, n = (k : Int) := ⟨n.toNat, by omega⟩
    rw [Int.toNat_natCast] at hr
    have m1 : Int.tmod (k : Int) 7 = ((k % 7 : Nat) : Int) := by rw [Int.tmod_eq_emod_of_nonneg (by omega)]; omega
    have m2 : (k : Int) % 7 = ((k % 7 : Nat) : Int) := by omega
    rw [← hr]
    clear hr
    generalize k % 7 = q at m1 m2
    go_enter Tryd.func18, Tryd.ntmps18
    go_wp2_with fail
    refine (c1.out _).mono ?_
    rintro e w1 ⟨rfl, rfl⟩
    go_wp2
    go_ret
    exact ⟨rfl, rfl⟩
  · rw [if_neg h] at hr
    subst hr
    have c1 := Lib.hid (fun W => refIs_any n false (by simp; omega) W)
    go_enter Tryd.func18, Tryd.ntmps18
    go_wp2_with fail
    refine (c1.out _).mono ?_
    rintro e w1 ⟨rfl, rfl⟩
    go_wp2
    go_ret
    exact ⟨rfl, rfl⟩
end Go.Proofs.YtdcmfncocehbhaaDoor
