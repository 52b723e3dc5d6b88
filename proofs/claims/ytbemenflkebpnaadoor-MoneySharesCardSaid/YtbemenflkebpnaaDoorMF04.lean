/- Package money: Format, at every number. -/
import Derived.Test.YtbemenflkebpnaaDoorTab04
import Derived.Test.YtbemenflkebpnaaDoorMA04
namespace Go.Proofs.YtbemenflkebpnaaDoor
open Go.RowKit

theorem cents_lo (r : Nat) (h : r < 10) : (⟨#[48]⟩ : ByteArray) ++ S (Lib.decDigits r) = S (padL 2 (Lib.decDigits r)) := by
  rw [show (⟨#[48]⟩ : ByteArray) = S [48] from rfl, S_append, dec1 r h]
  rfl
theorem cents_hi (r : Nat) (h : ¬ r < 10) : S (Lib.decDigits r) = S (padL 2 (Lib.decDigits r)) := by
  unfold padL
  rw [decS r h, show 2 - (Lib.decDigits (r / 10) ++ [dgt (r % 10)]).length = 0 by have := dec_pos (r / 10); simp; omega]
  rfl

set_option maxHeartbeats 4000000 in
theorem monFormat_bad (n : Int) (h : ¬ (0 ≤ n ∧ n ≤ 100000000)) (w : World) :
    Calls Tryd.prog 20 #[.int .i64 n] w fun e w' => e = .returned (.string ⟨#[]⟩) ∧ w' = w := by
  have c1 := Lib.hid (fun W => monRight_any n false ((rightI_no n).2 h) W)
  go_enter Tryd.func20, Tryd.ntmps20
  go_wp2_with fail
  refine (c1.out _).mono ?_
  rintro e w1 ⟨rfl, rfl⟩
  go_wp2
  go_ret
  exact ⟨rfl, rfl⟩

set_option maxHeartbeats 8000000 in
theorem monFormat_ok (n : Nat) (h : n ≤ 100000000) (w : World) (hT : Tab w) :
    Calls Tryd.prog 20 #[.int .i64 (n : Int)] w fun e w' => e = .returned (.string (fmtM n)) ∧ Below w.heap.size w w' := by
  have c1 := Lib.hid (fun W => monRight_any (n : Int) true ((rightI_iff n).2 (by omega)) W)
  have c2 := Lib.hid (fun W => itoa_small (n % 100) (by omega) W)
  have c3 := Lib.hid (itoa_any (n / 100) (by omega) w hT)
  have HF := Lib.hid (fmt_append n)
  rw [show [dgt (n / 10 % 10), dgt (n % 10)] = padL 2 (Lib.decDigits (n % 100)) by rw [pad_two (n % 100) (by omega), show n % 100 / 10 % 10 = n / 10 % 10 by omega, show n % 100 % 10 = n % 10 by omega]] at HF
  have s1 : (S (Lib.decDigits (n / 100))).size ≤ 1000001 := by rw [S_size]; have := dec_bound (n / 100); omega
  have r1 : Int.tmod (n : Int) 100 = ((n % 100 : Nat) : Int) := by rw [Int.tmod_eq_emod_of_nonneg (by omega)]; omega
  have r2 : (n : Int) % 100 = ((n % 100 : Nat) : Int) := by omega
  have q1 : Int.tdiv (n : Int) 100 = ((n / 100 : Nat) : Int) := by rw [Int.tdiv_eq_ediv_of_nonneg (by omega)]; omega
  have q2 : (n : Int) / 100 = ((n / 100 : Nat) : Int) := by omega
  generalize S (Lib.decDigits (n / 100)) = a at *
  have hr : n % 100 < 100 := by omega
  generalize n / 100 = q at *
  generalize n % 100 = r at *
  clear hT
  by_cases hlo : r < 10
  · have hc := cents_lo r hlo
    have s2 : (S (Lib.decDigits r)).size = 1 := by rw [dec1 r hlo]; rfl
    rw [← hc] at HF
    clear hc
    generalize S (Lib.decDigits r) = b at *
    go_enter Tryd.func20, Tryd.ntmps20
    go_wp2_with fail
    refine (c1.out _).mono ?_
    rintro e w1 ⟨rfl, rfl⟩
    go_wp2_with fail
    refine (c2.out _).mono ?_
    rintro e w1 ⟨rfl, rfl⟩
    go_wp2_with fail
    refine (c3.out).mono ?_
    rintro e w1 ⟨rfl, b1⟩
    go_wp2
    go_ret
    rw [← HF.out]
    exact ⟨rfl, b1⟩
  · have hc := cents_hi r hlo
    have s2 : (S (Lib.decDigits r)).size = 2 := by rw [decS r hlo, dec1 (r / 10) (by omega)]; rfl
    rw [← hc] at HF
    clear hc
    generalize S (Lib.decDigits r) = b at *
    go_enter Tryd.func20, Tryd.ntmps20
    go_wp2_with fail
    refine (c1.out _).mono ?_
    rintro e w1 ⟨rfl, rfl⟩
    go_wp2_with fail
    refine (c2.out _).mono ?_
    rintro e w1 ⟨rfl, rfl⟩
    go_wp2_with fail
    refine (c3.out).mono ?_
    rintro e w1 ⟨rfl, b1⟩
    go_wp2
    go_ret
    rw [← HF.out]
    exact ⟨rfl, b1⟩
end Go.Proofs.YtbemenflkebpnaaDoor
