/- Package date: Months inside of the calendar; Format. -/
import Derived.Test.YtdcmfncocehbhaaDoorDB03
import Derived.Laws.Small
namespace Go.Proofs.YtdcmfncocehbhaaDoor
open Go.RowKit

set_option maxHeartbeats 1600000 in
set_option maxRecDepth 100000 in
theorem datMonths_in {n y m d : Nat} (hd : IsDate n y m d) (j : Int) (k : Nat) (hk : 12 * (y : Int) + m - 1 + j = k) (ho : 22800 ≤ k ∧ k ≤ 26399) {r : Nat}
    (hr : IsDate r (k / 12) (k % 12 + 1) (capD (k / 12) (k % 12 + 1) d)) (w : World) (hT : Tab w) :
    Calls Tryd.prog 19 #[.int .i64 (n : Int), .int .i64 j] w fun e w' => e = .returned (.tuple #[.int .i64 (r : Int), .int .i64 0]) ∧ Below w.heap.size w w' := by
  have c1 := Lib.hid (datParts_ok hd w hT)
  have c2 := Lib.hid (fun W (hW : Below w.heap.size w W) => datLength_any _ _ _ (lenI_nat (k / 12) (k % 12 + 1) hr.y0 hr.y1 hr.m0 hr.m1) W (hT.on hW))
  have c3 := Lib.hid (fun W (hW : Below w.heap.size w W) => datOf_ok hr W (hT.on hW))
  have hy0 := hd.y0
  have hy1 := hd.y1
  have hm0 := hd.m0
  have hm1 := hd.m1
  have hqb : k / 12 ≤ 3000 := by omega
  have hmb : k % 12 ≤ 12 := by omega
  clear hd hr hT
  obtain ⟨q, rfl⟩ : ∃ q, k = q + 22800 := ⟨k - 22800, by omega⟩
  have hq : q ≤ 3599 := by omega
  have hkq : 12 * ((y : Int) - 1900) + (m : Int) - 1 + j = (q : Int) := by omega
  have t1 : ¬ j < -(12 * ((y : Int) - 1900) + (m : Int) - 1) := by omega
  have t2 : ¬ 3599 - (12 * ((y : Int) - 1900) + (m : Int) - 1) < j := by omega
  have d1 : decide (j < -(12 * ((y : Int) - 1900) + (m : Int) - 1)) = false := decide_eq_false t1
  have d2 : decide (3599 - (12 * ((y : Int) - 1900) + (m : Int) - 1) < j) = false := decide_eq_false t2
  have e1 : (q + 22800) / 12 = 1900 + q / 12 := by omega
  have e2 : (q + 22800) % 12 = q % 12 := by omega
  rw [e1, e2] at c2 c3
  rw [e1] at hqb
  rw [e2] at hmb
  have m1 : Int.tmod (q : Int) 12 = ((q % 12 : Nat) : Int) := by rw [Int.tmod_eq_emod_of_nonneg (by omega)]; omega
  have m2 : (q : Int) % 12 = ((q % 12 : Nat) : Int) := by omega
  have q1 : Int.tdiv (q : Int) 12 = ((q / 12 : Nat) : Int) := by rw [Int.tdiv_eq_ediv_of_nonneg (by omega)]; omega
  have q2 : (q : Int) / 12 = ((q / 12 : Nat) : Int) := by omega
  have hl : mlen (1900 + q / 12) (q % 12 + 1) ≤ 31 := by
    have := mdays_pos (leap (1900 + q / 12)) (q % 12 + 1)
    unfold mlen
    omega
  clear e1 e2 hk ho
  generalize q / 12 = a at *
  generalize q % 12 = b at *
  by_cases hc : mlen (1900 + a) (b + 1) < d
  · have e1 : capD (1900 + a) (b + 1) d = mlen (1900 + a) (b + 1) := if_pos hc
    rw [e1] at c3
    generalize mlen (1900 + a) (b + 1) = l at c2 c3 hc hl
    clear e1
    have hmin : ∀ (ts : Array TypeId) (t : TypeId) (W : World), (Builtin.min_ ts t #[.int .i64 (d : Int), .int .i64 (l : Int)]).run Tryd.prog W = .ok (.int .i64 (l : Int)) W := by
      intro ts t W
      rw [run_min_int2, if_pos (by omega)]
    clear hc
    go_enter Tryd.func19, Tryd.ntmps19
    go_wp2_with fail
    refine c1.out.mono ?_
    rintro e w1 ⟨rfl, b1⟩
    go_wp2_with fail
    refine (c2.out _ b1).mono ?_
    rintro e w2 ⟨rfl, b2⟩
    have hb2 := b1.trans (b2.mono b1.size)
    clear b2 d1 d2 t1 t2 hkq m1 m2 q1 q2 b1
    go_wp2_with fail
    refine (c3.out _ hb2).mono ?_
    rintro e w4 ⟨rfl, b4⟩
    have hb4 := hb2.trans (b4.mono hb2.size)
    clear b4 hb2
    go_wp2
    go_ret2
    exact ⟨rfl, hb4⟩
  · have e1 : capD (1900 + a) (b + 1) d = d := if_neg hc
    rw [e1] at c3
    generalize mlen (1900 + a) (b + 1) = l at c2 hc hl
    clear e1
    have hmin : ∀ (ts : Array TypeId) (t : TypeId) (W : World), (Builtin.min_ ts t #[.int .i64 (d : Int), .int .i64 (l : Int)]).run Tryd.prog W = .ok (.int .i64 (d : Int)) W := by
      intro ts t W
      rw [run_min_int2, if_neg (by omega)]
    clear hc
    go_enter Tryd.func19, Tryd.ntmps19
    go_wp2_with fail
    refine c1.out.mono ?_
    rintro e w1 ⟨rfl, b1⟩
    go_wp2_with fail
    refine (c2.out _ b1).mono ?_
    rintro e w2 ⟨rfl, b2⟩
    have hb2 := b1.trans (b2.mono b1.size)
    clear b2 d1 d2 t1 t2 hkq m1 m2 q1 q2 b1
    go_wp2_with fail
    refine (c3.out _ hb2).mono ?_
    rintro e w4 ⟨rfl, b4⟩
    have hb4 := hb2.trans (b4.mono hb2.size)
    clear b4 hb2
    go_wp2
    go_ret2
    exact ⟨rfl, hb4⟩
end Go.Proofs.YtdcmfncocehbhaaDoor
