/- libraryref04.Right, Add, Permille, at every number. -/
import Derived.Test.YtbemenflkebpnaaDoorProg
import Derived.Test.YtbemenflkebpnaaDoorPlain04
import Derived.Lib.Hide
import Derived.Below
import Derived.WalkKit
import Derived.BigCall
namespace Go.Proofs.YtbemenflkebpnaaDoor
open Go.RowKit

def rightI (n : Int) : Bool := decide (0 ≤ n) && decide (n ≤ 100000000)
theorem rightI_iff (n : Int) : rightI n = true ↔ 0 ≤ n ∧ n ≤ 100000000 := by simp [rightI]
theorem rightI_no (n : Int) : rightI n = false ↔ ¬ (0 ≤ n ∧ n ≤ 100000000) := by rw [← rightI_iff]; simp
/-- The sum and the error. -/
def addI (a b : Int) : Int × Int := if rightI a = true ∧ rightI b = true ∧ rightI (a + b) = true then (a + b, 0) else (0, 2)
/-- The permille, or 0. -/
def permI (n r : Int) : Int := if rightI n = true ∧ 0 ≤ r ∧ r ≤ 1000 then (perm n.toNat r.toNat : Int) else 0

theorem refRight_any (n : Int) (b : Bool) (hb : rightI n = b) (w : World) :
    Calls Tryd.prog 12 #[.int .i64 n] w fun e w' => e = .returned (.bool b) ∧ w' = w := by
  unfold rightI at hb
  cases h1 : decide (0 ≤ n)
  · rw [h1] at hb
    obtain rfl : b = false := hb.symm
    go_enter Tryd.func12, Tryd.ntmps12
    go_wp2
    go_ret
    exact ⟨rfl, rfl⟩
  · cases h2 : decide (n ≤ 100000000)
    all_goals
      rw [h1, h2] at hb
      obtain rfl := hb.symm
      go_enter Tryd.func12, Tryd.ntmps12
      go_wp2
      go_ret
      exact ⟨rfl, rfl⟩

set_option maxHeartbeats 4000000 in
theorem refAdd_any (a b n e : Int) (h : addI a b = (n, e)) (w : World) :
    Calls Tryd.prog 10 #[.int .i64 a, .int .i64 b] w fun e' w' => e' = .returned (.tuple #[.int .i64 n, .int .i64 e]) ∧ w' = w := by
  unfold addI at h
  cases ha : rightI a
  · have c1 := Lib.hid (fun W => refRight_any a false ha W)
    rw [ha, if_neg (fun h => by cases h.1)] at h
    simp only [Prod.mk.injEq] at h
    obtain ⟨rfl, rfl⟩ := h
    go_enter Tryd.func10, Tryd.ntmps10
    go_wp2_with fail
    refine (c1.out _).mono ?_
    rintro e w1 ⟨rfl, rfl⟩
    go_wp2
    go_ret2
    exact ⟨rfl, rfl⟩
  have c1 := Lib.hid (fun W => refRight_any a true ha W)
  cases hb : rightI b
  · have c2 := Lib.hid (fun W => refRight_any b false hb W)
    rw [hb, if_neg (fun h => by cases h.2.1)] at h
    simp only [Prod.mk.injEq] at h
    obtain ⟨rfl, rfl⟩ := h
    clear ha hb
    go_enter Tryd.func10, Tryd.ntmps10
    go_wp2_with fail
    refine (c1.out _).mono ?_
    rintro e w1 ⟨rfl, rfl⟩
    go_wp2_with fail
    refine (c2.out _).mono ?_
    rintro e w1 ⟨rfl, rfl⟩
    go_wp2
    go_ret2
    exact ⟨rfl, rfl⟩
  have c2 := Lib.hid (fun W => refRight_any b true hb W)
  have ra := (rightI_iff a).1 ha
  have rb := (rightI_iff b).1 hb
  cases hs : rightI (a + b)
  · have c3 := Lib.hid (fun W => refRight_any (a + b) false hs W)
    rw [hs, if_neg (fun h => by cases h.2.2)] at h
    simp only [Prod.mk.injEq] at h
    obtain ⟨rfl, rfl⟩ := h
    clear ha hb hs
    go_enter Tryd.func10, Tryd.ntmps10
    go_wp2_with fail
    refine (c1.out _).mono ?_
    rintro e w1 ⟨rfl, rfl⟩
    go_wp2_with fail
    refine (c2.out _).mono ?_
    rintro e w1 ⟨rfl, rfl⟩
    go_wp2_with fail
    refine (c3.out _).mono ?_
    rintro e w1 ⟨rfl, rfl⟩
    go_wp2
    go_ret2
    exact ⟨rfl, rfl⟩
  · have c3 := Lib.hid (fun W => refRight_any (a + b) true hs W)
    rw [if_pos ⟨ha, hb, hs⟩] at h
    simp only [Prod.mk.injEq] at h
    obtain ⟨rfl, rfl⟩ := h
    clear ha hb hs
    go_enter Tryd.func10, Tryd.ntmps10
    go_wp2_with fail
    refine (c1.out _).mono ?_
    rintro e w1 ⟨rfl, rfl⟩
    go_wp2_with fail
    refine (c2.out _).mono ?_
    rintro e w1 ⟨rfl, rfl⟩
    go_wp2_with fail
    refine (c3.out _).mono ?_
    rintro e w1 ⟨rfl, rfl⟩
    go_wp2
    go_ret2
    exact ⟨rfl, rfl⟩

set_option maxHeartbeats 4000000 in
theorem refPerm_out (n r : Int) (h : ¬ (rightI n = true ∧ 0 ≤ r ∧ r ≤ 1000)) (w : World) :
    Calls Tryd.prog 14 #[.int .i64 n, .int .i64 r] w fun e w' => e = .returned (.int .i64 0) ∧ w' = w := by
  cases hn : rightI n
  · have c1 := Lib.hid (fun W => refRight_any n false hn W)
    clear h hn
    go_enter Tryd.func14, Tryd.ntmps14
    go_wp2_with fail
    refine (c1.out _).mono ?_
    rintro e w1 ⟨rfl, rfl⟩
    go_wp2
    go_ret
    exact ⟨rfl, rfl⟩
  have c1 := Lib.hid (fun W => refRight_any n true hn W)
  by_cases h1 : r < 0
  · have d1 : decide (r < 0) = true := decide_eq_true h1
    clear h hn
    go_enter Tryd.func14, Tryd.ntmps14
    go_wp2_with fail
    refine (c1.out _).mono ?_
    rintro e w1 ⟨rfl, rfl⟩
    go_wp2
    go_ret
    exact ⟨rfl, rfl⟩
  · have d1 : decide (r < 0) = false := decide_eq_false h1
    have d2 : decide (1000 < r) = true := decide_eq_true (by rcases Int.lt_or_le 1000 r with h2 | h2; exact h2; exact absurd ⟨hn, by omega, h2⟩ h)
    clear h hn
    go_enter Tryd.func14, Tryd.ntmps14
    go_wp2_with fail
    refine (c1.out _).mono ?_
    rintro e w1 ⟨rfl, rfl⟩
    go_wp2
    go_ret
    exact ⟨rfl, rfl⟩

set_option maxHeartbeats 8000000 in
theorem refPerm_in (n r : Nat) (hn : n ≤ 100000000) (hr : r ≤ 1000) (w : World) :
    Calls Tryd.prog 14 #[.int .i64 (n : Int), .int .i64 (r : Int)] w fun e w' => e = .returned (.int .i64 (perm n r : Nat)) ∧ w' = w := by
  have c1 := Lib.hid (fun W => refRight_any (n : Int) true (by rw [rightI_iff]; omega) W)
  have d1 : decide ((r : Int) < 0) = false := by simp
  have d2 : decide ((1000 : Int) < (r : Int)) = false := by simp; omega
  have hp : n * r ≤ 100000000000 := Nat.mul_le_mul hn hr
  have hc : (n : Int) * (r : Int) = ((n * r : Nat) : Int) := (Int.natCast_mul n r).symm
  have hperm : RowKit.Hid (perm n r = rnd (n * r)) := rfl
  generalize n * r = p at hp hc hperm
  have q1 : Int.tdiv (p : Int) 1000 = ((p / 1000 : Nat) : Int) := by rw [Int.tdiv_eq_ediv_of_nonneg (by omega)]; omega
  have q2 : (p : Int) / 1000 = ((p / 1000 : Nat) : Int) := by omega
  have m1 : Int.tmod (p : Int) 1000 = ((p % 1000 : Nat) : Int) := by rw [Int.tmod_eq_emod_of_nonneg (by omega)]; omega
  have m2 : (p : Int) % 1000 = ((p % 1000 : Nat) : Int) := by omega
  have hq : p / 1000 ≤ 100000000 := by omega
  have hm : p % 1000 ≤ 999 := by omega
  unfold rnd at hperm
  generalize p / 1000 = q at *
  generalize p % 1000 = m at *
  have m3 : Int.tmod (q : Int) 2 = ((q % 2 : Nat) : Int) := by rw [Int.tmod_eq_emod_of_nonneg (by omega)]; omega
  have m4 : (q : Int) % 2 = ((q % 2 : Nat) : Int) := by omega
  have ho : q % 2 ≤ 1 := by omega
  generalize q % 2 = o at *
  by_cases h1 : 500 < m
  · have d3 : decide ((500 : Int) < (m : Int)) = true := by simp; omega
    have hp2 : RowKit.Hid (perm n r = q + 1) := hperm.trans (if_pos (.inl h1))
    clear hperm h1
    go_enter Tryd.func14, Tryd.ntmps14
    go_wp2_with fail
    refine (c1.out _).mono ?_
    rintro e w1 ⟨rfl, rfl⟩
    go_wp2
    go_ret
    rw [hp2.out]
    exact ⟨rfl, rfl⟩
  have d3 : decide ((500 : Int) < (m : Int)) = false := by simp; omega
  by_cases h2 : m = 500
  · have d4 : ((m : Int) == 500) = true := by simp; omega
    by_cases h3 : o = 1
    · have d5 : ((o : Int) == 1) = true := by simp; omega
      have hp2 : RowKit.Hid (perm n r = q + 1) := hperm.trans (if_pos (.inr ⟨h2, h3⟩))
      clear hperm h1 h2 h3
      go_enter Tryd.func14, Tryd.ntmps14
      go_wp2_with fail
      refine (c1.out _).mono ?_
      rintro e w1 ⟨rfl, rfl⟩
      go_wp2
      go_ret
      rw [hp2.out]
      exact ⟨rfl, rfl⟩
    · have d5 : ((o : Int) == 1) = false := by simp; omega
      have hp2 : RowKit.Hid (perm n r = q) := hperm.trans (if_neg (by omega))
      clear hperm h1 h2 h3
      go_enter Tryd.func14, Tryd.ntmps14
      go_wp2_with fail
      refine (c1.out _).mono ?_
      rintro e w1 ⟨rfl, rfl⟩
      go_wp2
      go_ret
      rw [hp2.out]
      exact ⟨rfl, rfl⟩
  · have d4 : ((m : Int) == 500) = false := by simp; omega
    have hp2 : RowKit.Hid (perm n r = q) := hperm.trans (if_neg (by omega))
    clear hperm h1 h2
    go_enter Tryd.func14, Tryd.ntmps14
    go_wp2_with fail
    refine (c1.out _).mono ?_
    rintro e w1 ⟨rfl, rfl⟩
    go_wp2
    go_ret
    rw [hp2.out]
    exact ⟨rfl, rfl⟩

theorem refPerm_any (n r v : Int) (h : permI n r = v) (w : World) :
    Calls Tryd.prog 14 #[.int .i64 n, .int .i64 r] w fun e w' => e = .returned (.int .i64 v) ∧ w' = w := by
  subst h
  unfold permI
  by_cases h : rightI n = true ∧ 0 ≤ r ∧ r ≤ 1000
  · rw [if_pos h]
    obtain ⟨h1, h2, h3⟩ := h
    rw [rightI_iff] at h1
    obtain ⟨a, rfl⟩ : ∃ a : Nat, n = (a : Int) := ⟨n.toNat, by omega⟩
    obtain ⟨b, rfl⟩ : ∃ b : Nat, r = (b : Int) := ⟨r.toNat, by omega⟩
    exact refPerm_in a b (by omega) (by omega) w
  · rw [if_neg h]
    exact refPerm_out n r h w
end Go.Proofs.YtbemenflkebpnaaDoor
