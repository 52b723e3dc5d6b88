/- Package money: digits, number, shaped. -/
import Derived.Test.YtbemenflkebpnaaDoorMA04
import Derived.Test.YtbemenflkebpnaaDoorR04P
import Derived.BigQuiet
namespace Go.Proofs.YtbemenflkebpnaaDoor
open Go.RowKit Go.PlainAid

def digAt (t : ByteArray) (i : Nat) : Bool := decide (48 ≤ bt t i) && decide (bt t i ≤ 57)
def allD (t : ByteArray) : Bool := (List.range t.size).all (digAt t)

set_option maxHeartbeats 8000000 in
theorem monDigits_body (t : ByteArray) (ht : t.size ≤ 1000000) (j : Nat) (hj : j ≤ t.size) (hg : ∀ i, i < j → digAt t i = true) (hb : j < t.size → digAt t j = false) (b : Bool) (hjb : decide (j = t.size) = b) (w : World) :
    Calls Tryd.prog 29 #[.string t] w fun e w' => e = .returned (.bool b) ∧ w' = w := by
  have hbt := get_bt t
  have HG := Lib.hid hg
  have HB := Lib.hid hb
  obtain ⟨n, hn⟩ : ∃ n, t.size = n := ⟨_, rfl⟩
  rw [hn] at ht hj hjb
  have HN := Lib.hid hn
  clear hg hb
  go_enter Tryd.func29, Tryd.ntmps29
  go_wp2
  go_loopw [6] (fun i wr => ∃ k : Nat, k ≤ j ∧ i = .int .i64 (k : Int) ∧ wr = w) (fun i _ => j - (intOf i).toNat)
  case atStart => exact ⟨0, Nat.zero_le _, rfl, rfl⟩
  case round =>
    obtain ⟨k, hk, rfl, rfl⟩ := hrel
    by_cases hlt : k < j
    · have hf := HG.out k hlt
      unfold digAt at hf
      rw [Bool.and_eq_true] at hf
      have h0 := of_decide_eq_true hf.1
      have h9 := of_decide_eq_true hf.2
      have t1 : decide (bt t k < 48) = false := decide_eq_false (by omega)
      have t2 : decide (57 < bt t k) = false := decide_eq_false (by omega)
      have i1 : (0 : Int) ≤ (k : Int) := by omega
      have i2 : (k : Int) < (n : Int) := by omega
      have n1 : k < n := by omega
      have n2 : k < t.size := by omega
      clear hf h0 h9
      go_wp2
      go_roundw
      case rel => exact ⟨k + 1, by omega, by go_num, trivial⟩
      case measure => simp [intOf]; omega
    · obtain rfl : k = j := by omega
      by_cases hkn : k < n
      · have hf := HB.out (by have := HN.out; omega)
        obtain rfl : b = false := by rw [← hjb]; exact decide_eq_false (by omega)
        unfold digAt at hf
        have i1 : (0 : Int) ≤ (k : Int) := by omega
        have i2 : (k : Int) < (n : Int) := by omega
        have n2 : k < t.size := by omega
        by_cases h1 : bt t k < 48
        · have t1 : decide (bt t k < 48) = true := decide_eq_true h1
          clear hf hjb
          go_wp2
          go_ret
          exact ⟨rfl, rfl⟩
        · have t1 : decide (bt t k < 48) = false := decide_eq_false h1
          have t2 : decide (57 < bt t k) = true := by
            rw [decide_eq_true (show 48 ≤ bt t k by omega), Bool.true_and] at hf
            have := of_decide_eq_false hf
            exact decide_eq_true (by omega)
          clear hf hjb
          go_wp2
          go_ret
          exact ⟨rfl, rfl⟩
      · obtain rfl : k = n := by omega
        obtain rfl : b = true := by rw [← hjb]; exact decide_eq_true rfl
        clear hjb
        go_wp2
        go_ret
        exact ⟨rfl, rfl⟩
theorem monDigits_any (t : ByteArray) (ht : t.size ≤ 1000000) (w : World) :
    Calls Tryd.prog 29 #[.string t] w fun e w' => e = .returned (.bool (allD t)) ∧ w' = w := by
  rcases first_bad (digAt t) t.size with hg | ⟨j, hj, hg, hb⟩
  · rw [show allD t = true from (all_size _ _).2 hg]
    exact monDigits_body t ht t.size (Nat.le_refl _) hg (fun h => absurd h (Nat.lt_irrefl _)) true (by simp) w
  · rw [show allD t = false by
      cases h : allD t
      · rfl
      · have := (all_size _ _).1 h j hj
        rw [hb] at this
        cases this]
    exact monDigits_body t ht j (Nat.le_of_lt hj) hg (fun _ => hb) false (by simp; omega) w

/-- The number as the program builds it: it stops where the number is no amount. -/
def numC (t : ByteArray) (v : Nat) : Nat → Nat
  | 0 => v
  | k + 1 => if 100000000 < numC t v k then numC t v k else 10 * numC t v k + (bt t k - 48).toNat
/-- The number that the digits say. -/
def numD (t : ByteArray) (v : Nat) : Nat → Nat
  | 0 => v
  | k + 1 => 10 * numD t v k + (bt t k - 48).toNat
theorem numC_le (t : ByteArray) (v : Nat) (hv : v ≤ 1000000009) : ∀ k, (∀ i, i < k → digAt t i = true) → numC t v k ≤ 1000000009
  | 0, _ => hv
  | k + 1, h => by
    have ih := numC_le t v hv k (fun i hi => h i (by omega))
    have hd := h k (by omega)
    unfold digAt at hd
    rw [Bool.and_eq_true] at hd
    have h9 := of_decide_eq_true hd.2
    simp only [numC]
    split <;> omega
theorem numC_stay (t : ByteArray) (v k : Nat) (h : 100000000 < numC t v k) : ∀ m, k ≤ m → numC t v m = numC t v k := by
  intro m hm
  induction m with
  | zero => rw [Nat.le_zero.1 hm]
  | succ m ih =>
    rcases Nat.lt_or_ge k (m + 1) with h1 | h1
    · have := ih (by omega)
      simp only [numC]
      rw [this, if_pos h]
    · rw [show k = m + 1 by omega]
theorem numC_numD (t : ByteArray) (u v : Nat) (h : (u ≤ 100000000 → u = v) ∧ (100000000 < u → 100000000 < v)) : ∀ k, (numC t u k ≤ 100000000 → numC t u k = numD t v k) ∧ (100000000 < numC t u k → 100000000 < numD t v k)
  | 0 => h
  | k + 1 => by
    obtain ⟨h1, h2⟩ := numC_numD t u v h k
    simp only [numC, numD]
    split
    · rename_i hb
      have := h2 hb
      exact ⟨fun h => by omega, fun _ => by omega⟩
    · rename_i hb
      have := h1 (by omega)
      rw [this]
      exact ⟨fun _ => rfl, fun h => h⟩

set_option maxHeartbeats 8000000 in
theorem monNumber_any (t : ByteArray) (ht : t.size ≤ 1000000) (v : Nat) (hv : v ≤ 1000000009) (hd : allD t = true) (w : World) :
    Calls Tryd.prog 26 #[.int .i64 (v : Int), .string t] w fun e w' => e = .returned (.int .i64 (numC t v t.size : Nat)) ∧ w' = w := by
  have hbt := get_bt t
  have hd := (all_size _ _).1 hd
  obtain ⟨n, hn⟩ : ∃ n, t.size = n := ⟨_, rfl⟩
  rw [hn] at ht hd ⊢
  have HD := Lib.hid hd
  have HN := Lib.hid hn
  have HL := Lib.hid (fun k (hk : k ≤ n) => numC_le t v hv k (fun i hi => hd i (by omega)))
  obtain ⟨R, hR⟩ : ∃ R, numC t v n = R := ⟨_, rfl⟩
  rw [hR]
  have HR := Lib.hid hR
  have HS := Lib.hid (fun k (hk : k ≤ n) (h : 100000000 < numC t v k) => hR.symm.trans (numC_stay t v k h n hk))
  have CR := Lib.hid (fun (n : Int) b hb W => monRight_any n b hb W)
  clear hd hR
  go_enter Tryd.func26, Tryd.ntmps26
  go_wp2
  go_loopw [0, 8] (fun x i wr => ∃ k : Nat, k ≤ n ∧ i = .int .i64 (k : Int) ∧ x = .int .i64 (numC t v k : Nat) ∧ wr = w) (fun _ i _ => n - (intOf i).toNat)
  case atStart => exact ⟨0, Nat.zero_le _, rfl, rfl, rfl⟩
  case round =>
    obtain ⟨k, hk, rfl, rfl, rfl⟩ := hrel
    have hc := HL.out k hk
    by_cases hlt : k < n
    · have hf := HD.out k hlt
      have i1 : (0 : Int) ≤ (k : Int) := by omega
      have i2 : (k : Int) < (n : Int) := by omega
      have n2 : k < t.size := by omega
      by_cases hbig : 100000000 < numC t v k
      · have c1 := Lib.hid (CR.out (numC t v k : Nat) false ((rightI_no _).2 (by omega)))
        have hs := Lib.hid (HS.out k hk hbig)
        clear hf
        generalize numC t v k = c at *
        go_wp2_with fail
        refine (c1.out _).mono ?_
        rintro e w1 ⟨rfl, rfl⟩
        go_wp2
        go_ret
        rw [hs.out]
        exact ⟨rfl, rfl⟩
      · have c1 := Lib.hid (CR.out (numC t v k : Nat) true ((rightI_iff _).2 (by omega)))
        unfold digAt at hf
        rw [Bool.and_eq_true] at hf
        have h0 := of_decide_eq_true hf.1
        have h9 := of_decide_eq_true hf.2
        obtain ⟨d, hx⟩ : ∃ d : Nat, bt t k = 48 + (d : Int) := ⟨(bt t k - 48).toNat, by omega⟩
        have hd9 : d ≤ 9 := by omega
        have HV : RowKit.Hid (numC t v (k + 1) = 10 * numC t v k + d) := by
          unfold RowKit.Hid
          simp only [numC]
          rw [if_neg hbig, hx]
          omega
        have hc8 : numC t v k ≤ 100000000 := by omega
        clear hf h0 h9 hc hbig
        generalize numC t v k = c at *
        go_wp2_with fail
        refine (c1.out _).mono ?_
        rintro e w1 ⟨rfl, rfl⟩
        go_wp2
        go_roundw
        case rel => exact ⟨k + 1, by omega, by go_num, by rw [HV.out]; go_num, trivial⟩
        case measure => simp [intOf]; omega
    · obtain rfl : k = n := by omega
      have hs := Lib.hid HR.out
      clear HR
      generalize numC t v k = c at *
      go_wp2
      go_ret
      rw [← hs.out]
      exact ⟨rfl, rfl⟩
end Go.Proofs.YtbemenflkebpnaaDoor
