/- Package date: digit, shaped, number. -/
import Derived.Test.YtdcmfncocehbhaaDoorDF03
import Derived.Test.YtdcmfncocehbhaaDoorR03Par
import Derived.BigQuiet
namespace Go.Proofs.YtdcmfncocehbhaaDoor
open Go.RowKit Go.PlainAid

set_option maxHeartbeats 4000000 in
theorem datDigit_any (x : Int) (b : Bool) (hb : (decide (48 ≤ x) && decide (x ≤ 57)) = b) (w : World) :
    Calls Tryd.prog 36 #[.int .u8 x] w fun e w' => e = .returned (.bool b) ∧ w' = w := by
  cases h1 : decide (48 ≤ x)
  · rw [h1] at hb
    obtain rfl : b = false := hb.symm
    go_enter Tryd.func36, Tryd.ntmps36
    go_wp2
    go_ret
    exact ⟨rfl, rfl⟩
  · cases h2 : decide (x ≤ 57)
    all_goals
      rw [h1, h2] at hb
      obtain rfl := hb.symm
      go_enter Tryd.func36, Tryd.ntmps36
      go_wp2
      go_ret
      exact ⟨rfl, rfl⟩

set_option maxHeartbeats 4000000 in
theorem datShaped_size (s : ByteArray) (h : s.size ≠ 10) (w : World) :
    Calls Tryd.prog 31 #[.string s] w fun e w' => e = .returned (.bool false) ∧ w' = w := by
  have d1 : ((s.size : Int) != 10) = true := by simp; omega
  go_enter Tryd.func31, Tryd.ntmps31
  go_wp2
  go_ret
  exact ⟨rfl, rfl⟩

set_option maxHeartbeats 16000000 in
set_option maxRecDepth 100000 in
theorem datShaped_any (s : ByteArray) (h : s.size = 10) (j : Nat) (hj : j ≤ 10) (hg : ∀ i, i < j → fitsAt s i = true) (hb : j < 10 → fitsAt s j = false) (b : Bool) (hjb : decide (j = 10) = b) (w : World) :
    Calls Tryd.prog 31 #[.string s] w fun e w' => e = .returned (.bool b) ∧ w' = w := by
  have d1 : ((s.size : Int) != 10) = false := by rw [h]; rfl
  have hbt := get_bt s
  have HG := Lib.hid hg
  have HB := Lib.hid hb
  have CD := Lib.hid (fun (x : Int) (b : Bool) hx W => datDigit_any x b hx W)
  clear hg hb
  go_enter Tryd.func31, Tryd.ntmps31
  go_wp2
  go_loopw [9] (fun i wr => ∃ k : Nat, k ≤ j ∧ i = .int .i64 (k : Int) ∧ wr = w) (fun i _ => j - (intOf i).toNat)
  case atStart => exact ⟨0, Nat.zero_le _, rfl, rfl⟩
  case round =>
    obtain ⟨k, hk, rfl, rfl⟩ := hrel
    by_cases hlt : k < j
    · have hf := HG.out k hlt
      have hk10 : k < 10 := by omega
      by_cases h47 : k = 4 ∨ k = 7
      · have e : bt s k = 45 := by simpa [fitsAt, h47] using hf
        have e2 : (bt s k != 45) = false := by rw [bne, e]; rfl
        clear hf
        rcases h47 with rfl | rfl
        all_goals
          go_wp2
          go_roundw
          case rel => first | exact ⟨1, by omega, rfl, trivial⟩ | exact ⟨2, by omega, rfl, trivial⟩ | exact ⟨3, by omega, rfl, trivial⟩ | exact ⟨4, by omega, rfl, trivial⟩ | exact ⟨5, by omega, rfl, trivial⟩ | exact ⟨6, by omega, rfl, trivial⟩ | exact ⟨7, by omega, rfl, trivial⟩ | exact ⟨8, by omega, rfl, trivial⟩ | exact ⟨9, by omega, rfl, trivial⟩ | exact ⟨10, by omega, rfl, trivial⟩
          case measure => simp [intOf]; omega
      · have hd : 48 ≤ bt s k ∧ bt s k ≤ 57 := by simpa [fitsAt, h47] using hf
        have cD := Lib.hid (CD.out (bt s k) true (by simp [hd.1, hd.2]))
        have h8 : k = 0 ∨ k = 1 ∨ k = 2 ∨ k = 3 ∨ k = 5 ∨ k = 6 ∨ k = 8 ∨ k = 9 := by omega
        clear hf h47 hd
        rcases h8 with rfl | rfl | rfl | rfl | rfl | rfl | rfl | rfl
        all_goals
          go_wp2_with fail
          refine (cD.out _).mono ?_
          rintro e w1 ⟨rfl, rfl⟩
          go_wp2
          go_roundw
          case rel => first | exact ⟨1, by omega, rfl, trivial⟩ | exact ⟨2, by omega, rfl, trivial⟩ | exact ⟨3, by omega, rfl, trivial⟩ | exact ⟨4, by omega, rfl, trivial⟩ | exact ⟨5, by omega, rfl, trivial⟩ | exact ⟨6, by omega, rfl, trivial⟩ | exact ⟨7, by omega, rfl, trivial⟩ | exact ⟨8, by omega, rfl, trivial⟩ | exact ⟨9, by omega, rfl, trivial⟩ | exact ⟨10, by omega, rfl, trivial⟩
          case measure => simp [intOf]; omega
    · have hke : k = j := by omega
      subst hke
      by_cases h10 : k < 10
      · have hf := HB.out h10
        have ej : decide (k = 10) = false := by simp; omega
        rw [ej] at hjb
        subst hjb
        by_cases h47 : k = 4 ∨ k = 7
        · have e : (bt s k == 45) = false := by simpa [fitsAt, h47] using hf
          have e2 : (bt s k != 45) = true := by rw [bne, e]; rfl
          clear hf
          rcases h47 with rfl | rfl
          all_goals
            go_wp2
            go_ret
            exact ⟨rfl, rfl⟩
        · have hd : (decide (48 ≤ bt s k) && decide (bt s k ≤ 57)) = false := by simpa [fitsAt, h47] using hf
          have cD := Lib.hid (CD.out (bt s k) false hd)
          have h8 : k = 0 ∨ k = 1 ∨ k = 2 ∨ k = 3 ∨ k = 5 ∨ k = 6 ∨ k = 8 ∨ k = 9 := by omega
          clear hf h47 hd
          rcases h8 with rfl | rfl | rfl | rfl | rfl | rfl | rfl | rfl
          all_goals
            go_wp2_with fail
            refine (cD.out _).mono ?_
            rintro e w1 ⟨rfl, rfl⟩
            go_wp2
            go_ret
            exact ⟨rfl, rfl⟩
      · obtain rfl : k = 10 := by omega
        obtain rfl : true = b := hjb
        go_wp2
        go_ret
        exact ⟨rfl, rfl⟩

set_option maxHeartbeats 4000000 in
theorem datNumber_any (t : ByteArray) (n : Nat) (h : t.size = n) (hn : n ≤ 4) (hd : ∀ i, i < n → 48 ≤ bt t i ∧ bt t i ≤ 57) (w : World) :
    Calls Tryd.prog 32 #[.string t] w fun e w' => e = .returned (.int .i64 (numAt t 0 n : Nat)) ∧ w' = w := by
  have hbt := get_bt t
  have HD := Lib.hid hd
  clear hd
  go_enter Tryd.func32, Tryd.ntmps32
  go_wp2
  go_loopw [3, 7] (fun v i wr => ∃ k : Nat, k ≤ n ∧ i = .int .i64 (k : Int) ∧ v = .int .i64 ((numAt t 0 k : Nat) : Int) ∧ wr = w) (fun _ i _ => n - (intOf i).toNat)
  case atStart => exact ⟨0, Nat.zero_le _, rfl, rfl, rfl⟩
  case round =>
    obtain ⟨k, hk, rfl, rfl, rfl⟩ := hrel
    by_cases hlt : k < n
    · obtain ⟨h0, h1⟩ := HD.out k hlt
      obtain ⟨v, hv⟩ : ∃ v : Nat, bt t k = 48 + (v : Int) := ⟨(bt t k - 48).toNat, by omega⟩
      have hv9 : v ≤ 9 := by omega
      have hX := numAt_bound t 0 k (by omega)
      have HX : RowKit.Hid (numAt t 0 (k + 1) = 10 * numAt t 0 k + v) := by unfold RowKit.Hid; simp only [numAt]; rw [Nat.zero_add, hv]; omega
      generalize numAt t 0 k = x at *
      go_wp2
      go_roundw
      case rel => exact ⟨k + 1, by omega, by go_num, by rw [HX.out]; go_num, trivial⟩
      case measure => simp [intOf]; omega
    · obtain rfl : k = n := by omega
      go_wp2
      go_ret
      exact ⟨rfl, rfl⟩
end Go.Proofs.YtdcmfncocehbhaaDoor
