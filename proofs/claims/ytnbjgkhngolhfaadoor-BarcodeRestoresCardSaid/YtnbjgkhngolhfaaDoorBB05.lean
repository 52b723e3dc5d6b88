/- Package barcode: alternating, weighted. -/
import Derived.Test.YtnbjgkhngolhfaaDoorBA05
namespace Go.Proofs.YtnbjgkhngolhfaaDoor
open Go.RowKit Go.PlainAid

set_option maxHeartbeats 8000000 in
theorem baralt_any (l : List UInt8) (hz : l.length ≤ 1000000) (hd : l.all digB = true) (w : World) :
    Calls Tryd.prog 37 #[.string (S l)] w fun e w' => e = .returned (.int .i64 (altS l : Nat)) ∧ w' = w := by
  have hbt := get_bt (S l)
  obtain ⟨n, hn⟩ : ∃ n, l.length = n := ⟨_, rfl⟩
  have hsz : (S l).size = n := by rw [S_size, hn]
  have hdg := (all_getD l digB).1 hd
  have HD := Lib.hid (fun i (hi : i < n) => dv_le l i (hdg i (by omega)))
  have HBS := Lib.hid (fun i => bt_S l i)
  have HC : RowKit.Hid (altS l = addN (fun i => if i % 2 = 1 then 3 * dv l i else dv l i) n) := by unfold RowKit.Hid altS; rw [hn]
  have HSum := Lib.hid (fun k (hk : k ≤ n) => addN_le (fun i => if i % 2 = 1 then 3 * dv l i else dv l i) 27 k (fun i hi => by have := (dv_le l i (hdg i (by omega))).1; split <;> omega))
  rw [hn] at hz
  clear hdg hd hn
  generalize altS l = cc at *
  generalize S l = s at *
  go_enter Tryd.func37, Tryd.ntmps37
  go_wp2
  go_loopw [3, 8] (fun su i wr => ∃ k : Nat, k ≤ n ∧ i = .int .i64 (k : Int) ∧ su = .int .i64 ((addN (fun i => if i % 2 = 1 then 3 * dv l i else dv l i) k : Nat) : Int) ∧ wr = w) (fun _ i _ => n - (intOf i).toNat)
  case atStart => exact ⟨0, Nat.zero_le _, rfl, rfl, rfl⟩
  case round =>
    obtain ⟨k, hk, rfl, rfl, rfl⟩ := hrel
    have hsb : addN (fun i => if i % 2 = 1 then 3 * dv l i else dv l i) k ≤ 27000000 := by have := HSum.out k hk; omega
    by_cases hkn : k < n
    · have HV : RowKit.Hid (addN (fun i => if i % 2 = 1 then 3 * dv l i else dv l i) (k + 1) = addN (fun i => if i % 2 = 1 then 3 * dv l i else dv l i) k + (if k % 2 = 1 then 3 * dv l k else dv l k)) := rfl
      obtain ⟨hd9, hdb⟩ := HD.out k hkn
      have hv := HBS.out k
      rw [hdb] at hv
      have hki : (k : Int) < (n : Int) := by omega
      have cV := Lib.hid (barvalue_d (48 + ((dv l k : Nat) : Int)) (dv l k) rfl hd9 wr)
      have hv : bt s k = 48 + ((dv l k : Nat) : Int) := by rw [hv]; omega
      have r1 : Int.tmod (k : Int) 2 = ((k % 2 : Nat) : Int) := by rw [Int.tmod_eq_emod_of_nonneg (by omega)]; omega
      have r2 : (k : Int) % 2 = ((k % 2 : Nat) : Int) := by omega
      have ho : k % 2 ≤ 1 := by omega
      generalize addN (fun i => if i % 2 = 1 then 3 * dv l i else dv l i) k = sx at *
      generalize dv l k = d at *
      generalize k % 2 = o at *
      by_cases h1 : o = 1
      · subst h1
        have HV2 : RowKit.Hid (addN (fun i => if i % 2 = 1 then 3 * dv l i else dv l i) (k + 1) = sx + 3 * d) := HV.out.trans (by rw [if_pos rfl])
        clear HV
        go_wp2_with fail
        refine (cV.out).mono ?_
        rintro e w1 ⟨rfl, rfl⟩
        go_wp2
        go_roundw
        case rel => exact ⟨k + 1, by omega, by go_num, by rw [HV2.out]; go_num, trivial⟩
        case measure => simp [intOf]; omega
      · have HV2 : RowKit.Hid (addN (fun i => if i % 2 = 1 then 3 * dv l i else dv l i) (k + 1) = sx + d) := HV.out.trans (by rw [if_neg h1])
        have t1 : ((o : Int) == 1) = false := by simp; omega
        clear HV
        go_wp2_with fail
        refine (cV.out).mono ?_
        rintro e w1 ⟨rfl, rfl⟩
        go_wp2
        go_roundw
        case rel => exact ⟨k + 1, by omega, by go_num, by rw [HV2.out]; go_num, trivial⟩
        case measure => simp [intOf]; omega
    · obtain rfl : k = n := by omega
      rw [← HC.out]
      go_wp2
      go_ret
      exact ⟨rfl, rfl⟩

set_option maxHeartbeats 8000000 in
theorem barwei_any (l : List UInt8) (hz : l.length ≤ 10000) (hd : endedB l = true) (w : World) :
    Calls Tryd.prog 34 #[.string (S l)] w fun e w' => e = .returned (.int .i64 (wS l : Nat)) ∧ w' = w := by
  have hbt := get_bt (S l)
  obtain ⟨n, hn⟩ : ∃ n, l.length = n := ⟨_, rfl⟩
  have hsz : (S l).size = n := by rw [S_size, hn]
  have hwd : ∀ i, i < n → wd (l.getD i 0) ≤ 10 ∧ ((l.getD i 0 = 88 ∧ wd (l.getD i 0) = 10) ∨ (l.getD i 0 ≠ 88 ∧ (l.getD i 0).toNat = 48 + wd (l.getD i 0) ∧ wd (l.getD i 0) ≤ 9)) := by
    intro i hi
    unfold wd
    by_cases h88 : l.getD i 0 = 88
    · rw [if_pos h88]
      exact ⟨Nat.le_refl _, .inl ⟨h88, rfl⟩⟩
    · rw [if_neg h88]
      rcases ended_each l hd i (by omega) with h | h
      · rw [digB_iff] at h
        exact ⟨by omega, .inr ⟨h88, by omega, by omega⟩⟩
      · exact absurd h h88
  have HD := Lib.hid hwd
  have HBS := Lib.hid (fun i => bt_S l i)
  have HC : RowKit.Hid (wS l = addN (fun i => wd (l.getD i 0) * (n - i)) n) := by unfold RowKit.Hid wS; rw [hn]
  have HSum := Lib.hid (fun k (hk : k ≤ n) => addN_le (fun i => wd (l.getD i 0) * (n - i)) 100000 k (fun i hi => Nat.le_trans (Nat.mul_le_mul (hwd i (by omega)).1 (Nat.sub_le n i)) (by omega)))
  rw [hn] at hz
  clear hwd hd hn
  generalize wS l = cc at *
  generalize S l = s at *
  go_enter Tryd.func34, Tryd.ntmps34
  go_wp2
  go_loopw [3, 7] (fun su i wr => ∃ k : Nat, k ≤ n ∧ i = .int .i64 (k : Int) ∧ su = .int .i64 ((addN (fun i => wd (l.getD i 0) * (n - i)) k : Nat) : Int) ∧ wr = w) (fun _ i _ => n - (intOf i).toNat)
  case atStart => exact ⟨0, Nat.zero_le _, rfl, rfl, rfl⟩
  case round =>
    obtain ⟨k, hk, rfl, rfl, rfl⟩ := hrel
    have hsb : addN (fun i => wd (l.getD i 0) * (n - i)) k ≤ 1000000000 := by have := HSum.out k hk; omega
    by_cases hkn : k < n
    · have HV : RowKit.Hid (addN (fun i => wd (l.getD i 0) * (n - i)) (k + 1) = addN (fun i => wd (l.getD i 0) * (n - i)) k + wd (l.getD k 0) * (n - k)) := rfl
      obtain ⟨hd9, hcase⟩ := HD.out k hkn
      have hv0 := HBS.out k
      have hki : (k : Int) < (n : Int) := by omega
      have e1 : (n : Int) - (k : Int) = ((n - k : Nat) : Int) := by omega
      have hmul : wd (l.getD k 0) * (n - k) ≤ 100000 := Nat.le_trans (Nat.mul_le_mul hd9 (Nat.sub_le n k)) (by omega)
      have hc : ((n - k : Nat) : Int) * ((wd (l.getD k 0) : Nat) : Int) = ((wd (l.getD k 0) * (n - k) : Nat) : Int) := by rw [Int.mul_comm]; exact (Int.natCast_mul _ _).symm
      generalize addN (fun i => wd (l.getD i 0) * (n - i)) k = sx at *
      rcases hcase with ⟨h88, hw⟩ | ⟨h88, hw, hw9⟩
      · have hv : bt s k = 88 := by rw [hv0, h88]; rfl
        clear hv0
        rw [hw] at hc hmul HV
        have HV2 : RowKit.Hid (addN (fun i => wd (l.getD i 0) * (n - i)) (k + 1) = sx + 10 * (n - k)) := HV.out
        clear h88 hw HV hd9
        generalize 10 * (n - k) = pr at *
        generalize n - k = dd at *
        have cX := Lib.hid (barvalue_x wr)
        go_wp2_with fail
        refine (cX.out).mono ?_
        rintro e w1 ⟨rfl, rfl⟩
        go_wp2
        go_roundw
        case rel => exact ⟨k + 1, by omega, by go_num, by rw [HV2.out]; go_num, trivial⟩
        case measure => simp [intOf]; omega
      · rw [hw] at hv0
        have t1 : (bt s k != 88) = true := by
          have : (l.getD k 0).toNat ≠ 88 := fun h => h88 (UInt8.toNat_inj.1 h)
          simp; omega
        have t2 : (bt s k == 88) = false := by simpa using t1
        have hv : bt s k = 48 + ((wd (l.getD k 0) : Nat) : Int) := by rw [hv0]; omega
        rw [hv] at t1 t2
        have cV := Lib.hid (barvalue_d (48 + ((wd (l.getD k 0) : Nat) : Int)) (wd (l.getD k 0)) rfl hw9 wr)
        clear h88 hw hv0
        generalize wd (l.getD k 0) * (n - k) = pr at *
        generalize wd (l.getD k 0) = x at *
        generalize n - k = dd at *
        go_wp2_with fail
        refine (cV.out).mono ?_
        rintro e w1 ⟨rfl, rfl⟩
        go_wp2
        go_roundw
        case rel => exact ⟨k + 1, by omega, by go_num, by rw [HV.out]; go_num, trivial⟩
        case measure => simp [intOf]; omega
    · obtain rfl : k = n := by omega
      rw [← HC.out]
      go_wp2
      go_ret
      exact ⟨rfl, rfl⟩
end Go.Proofs.YtnbjgkhngolhfaaDoor
