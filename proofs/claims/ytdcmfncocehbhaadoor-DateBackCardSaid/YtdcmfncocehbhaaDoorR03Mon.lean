/- libraryref03.Months, at every two numbers. -/
import Derived.Test.YtdcmfncocehbhaaDoorR03Of
namespace Go.Proofs.YtdcmfncocehbhaaDoor
open Go.RowKit

set_option maxHeartbeats 8000000 in
theorem refMonths_bad (n j : Int) (h : ¬ (0 ≤ n ∧ n ≤ 109572)) (w : World) :
    Calls Tryd.prog 20 #[.int .i64 n, .int .i64 j] w fun e w' => e = .returned (.tuple #[.int .i64 0, .int .i64 2]) ∧ Below w.heap.size w w' := by
  have c1 := Lib.hid (fun W => refParts_bad n h W)
  go_enter Tryd.func20, Tryd.ntmps20
  go_wp2_with fail
  refine (c1.out _).mono ?_
  rintro e w1 ⟨rfl, b1⟩
  go_wp2
  go_ret2
  exact ⟨rfl, b1⟩

set_option maxHeartbeats 8000000 in
theorem refMonths_far {n y m d : Nat} (hd : IsDate n y m d) (j : Int) (h : ¬ (-3600 ≤ j ∧ j ≤ 3600)) (w : World) :
    Calls Tryd.prog 20 #[.int .i64 (n : Int), .int .i64 j] w fun e w' => e = .returned (.tuple #[.int .i64 0, .int .i64 2]) ∧ Below w.heap.size w w' := by
  have c1 := Lib.hid (fun W => refParts_ok hd W)
  clear hd
  by_cases h1 : j < -3600
  · have d1 : decide (j < -3600) = true := by simp; omega
    go_enter Tryd.func20, Tryd.ntmps20
    go_wp2_with fail
    refine (c1.out _).mono ?_
    rintro e w1 ⟨rfl, b1⟩
    go_wp2
    go_ret2
    exact ⟨rfl, b1⟩
  · have d1 : decide (j < -3600) = false := by simp; omega
    have d2 : decide (3600 < j) = true := by simp; omega
    go_enter Tryd.func20, Tryd.ntmps20
    go_wp2_with fail
    refine (c1.out _).mono ?_
    rintro e w1 ⟨rfl, b1⟩
    go_wp2
    go_ret2
    exact ⟨rfl, b1⟩

set_option maxHeartbeats 8000000 in
theorem refMonths_out {n y m d : Nat} (hd : IsDate n y m d) (j k : Int) (h : -3600 ≤ j ∧ j ≤ 3600) (hk : 12 * (y : Int) + m - 1 + j = k) (ho : ¬ (22800 ≤ k ∧ k ≤ 26399)) (w : World) :
    Calls Tryd.prog 20 #[.int .i64 (n : Int), .int .i64 j] w fun e w' => e = .returned (.tuple #[.int .i64 0, .int .i64 2]) ∧ Below w.heap.size w w' := by
  have c1 := Lib.hid (fun W => refParts_ok hd W)
  have hy0 := hd.y0
  have hy1 := hd.y1
  have hm0 := hd.m0
  have hm1 := hd.m1
  clear hd
  have d1 : decide (j < -3600) = false := by simp; omega
  have d2 : decide (3600 < j) = false := by simp; omega
  by_cases h1 : k < 22800
  · have d3 : decide (k < 22800) = true := by simp; omega
    go_enter Tryd.func20, Tryd.ntmps20
    go_wp2_with fail
    refine (c1.out _).mono ?_
    rintro e w1 ⟨rfl, b1⟩
    go_wp2
    go_ret2
    exact ⟨rfl, b1⟩
  · have d3 : decide (k < 22800) = false := by simp; omega
    have d4 : decide (26399 < k) = true := by simp; omega
    go_enter Tryd.func20, Tryd.ntmps20
    go_wp2_with fail
    refine (c1.out _).mono ?_
    rintro e w1 ⟨rfl, b1⟩
    go_wp2
    go_ret2
    exact ⟨rfl, b1⟩

/-- The day of the month, some months later. -/
def capD (a b d : Nat) : Nat := if mlen a b < d then mlen a b else d
theorem capD_date (a b d : Nat) (hd : 1 ≤ d) (ha0 : 1900 ≤ a) (ha1 : a ≤ 2199) (hb0 : 1 ≤ b) (hb1 : b ≤ 12) : ∃ r, IsDate r a b (capD a b d) := by
  have hp := mdays_pos (leap a) b
  refine ⟨_, ⟨ha0, ha1, hb0, hb1, ?_, ?_, rfl⟩⟩
  · unfold capD mlen; split <;> omega
  · unfold capD; split <;> omega

set_option maxHeartbeats 8000000 in
set_option maxRecDepth 100000 in
theorem refMonths_ok {n y m d : Nat} (hd : IsDate n y m d) (j : Int) (k : Nat) (h : -3600 ≤ j ∧ j ≤ 3600) (hk : 12 * (y : Int) + m - 1 + j = k) (ho : 22800 ≤ k ∧ k ≤ 26399) {r : Nat}
    (hr : IsDate r (k / 12) (k % 12 + 1) (capD (k / 12) (k % 12 + 1) d)) (w : World) :
    Calls Tryd.prog 20 #[.int .i64 (n : Int), .int .i64 j] w fun e w' => e = .returned (.tuple #[.int .i64 (r : Int), .int .i64 0]) ∧ Below w.heap.size w w' := by
  have c1 := Lib.hid (fun W => refParts_ok hd W)
  have c2 := Lib.hid (fun W => refLength_any _ _ _ (lenI_nat (k / 12) (k % 12 + 1) hr.y0 hr.y1 hr.m0 hr.m1) W)
  have c3 := Lib.hid (fun W => refOf_ok hr W)
  have hy0 := hd.y0
  have hy1 := hd.y1
  have hm0 := hd.m0
  have hm1 := hd.m1
  have hqb : k / 12 ≤ 3000 := by omega
  have hmb : k % 12 ≤ 12 := by omega
  clear hd hr
  have d1 : decide (j < -3600) = false := by simp; omega
  have d2 : decide (3600 < j) = false := by simp; omega
  have d3 : decide ((k : Int) < 22800) = false := by simp; omega
  have d4 : decide ((26399 : Int) < (k : Int)) = false := by simp; omega
  have m1 : Int.tmod (k : Int) 12 = ((k % 12 : Nat) : Int) := by rw [Int.tmod_eq_emod_of_nonneg (by omega)]; omega
  have m2 : (k : Int) % 12 = ((k % 12 : Nat) : Int) := by omega
  have q1 : Int.tdiv (k : Int) 12 = ((k / 12 : Nat) : Int) := by rw [Int.tdiv_eq_ediv_of_nonneg (by omega)]; omega
  have q2 : (k : Int) / 12 = ((k / 12 : Nat) : Int) := by omega
  have hl : mlen (k / 12) (k % 12 + 1) ≤ 31 := by
    have := mdays_pos (leap (k / 12)) (k % 12 + 1)
    unfold mlen
    omega
  generalize k / 12 = a at *
  generalize k % 12 = b at *
  by_cases hc : mlen a (b + 1) < d
  · have e1 : capD a (b + 1) d = mlen a (b + 1) := if_pos hc
    rw [e1] at c3
    obtain ⟨l, e2⟩ : ∃ v, mlen a (b + 1) = v := ⟨_, rfl⟩
    rw [e2] at c2 c3 hc hl
    clear e1 e2
    have d5 : decide (l < d) = true := by simp; omega
    go_enter Tryd.func20, Tryd.ntmps20
    go_wp2_with fail
    refine (c1.out _).mono ?_
    rintro e w1 ⟨rfl, b1⟩
    go_wp2_with fail
    refine (c2.out _).mono ?_
    rintro e w2 ⟨rfl, b2⟩
    have hb2 := b1.trans (b2.mono b1.size)
    clear b2
    go_wp2_with fail
    refine (c2.out _).mono ?_
    rintro e w3 ⟨rfl, b3⟩
    have hb3 := hb2.trans (b3.mono hb2.size)
    clear b3 hb2
    go_wp2_with fail
    refine (c3.out _).mono ?_
    rintro e w4 ⟨rfl, b4⟩
    have hb4 := hb3.trans (b4.mono hb3.size)
    clear b4 hb3
    go_wp2
    go_ret2
    exact ⟨rfl, hb4⟩
  · have e1 : capD a (b + 1) d = d := if_neg hc
    rw [e1] at c3
    obtain ⟨l, e2⟩ : ∃ v, mlen a (b + 1) = v := ⟨_, rfl⟩
    rw [e2] at c2 hc hl
    clear e1 e2
    have d5 : decide (l < d) = false := by simp; omega
    go_enter Tryd.func20, Tryd.ntmps20
    go_wp2_with fail
    refine (c1.out _).mono ?_
    rintro e w1 ⟨rfl, b1⟩
    go_wp2_with fail
    refine (c2.out _).mono ?_
    rintro e w2 ⟨rfl, b2⟩
    have hb2 := b1.trans (b2.mono b1.size)
    clear b2
    go_wp2_with fail
    refine (c3.out _).mono ?_
    rintro e w4 ⟨rfl, b4⟩
    have hb4 := hb2.trans (b4.mono hb2.size)
    clear b4 hb2
    go_wp2
    go_ret2
    exact ⟨rfl, hb4⟩
end Go.Proofs.YtdcmfncocehbhaaDoor
