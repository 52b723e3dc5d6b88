/- libraryref06: Right, Join, Leaves, Same, Small. -/
import Derived.Test.YtdaoccmhehekaaaDoorR06A
import Derived.Test.YtdaoccmhehekaaaDoorBL
namespace Go.Proofs.YtdaoccmhehekaaaDoor
open Go.RowKit Go.PlainAid

theorem hex_cases (x : UInt8) : (48 ≤ x.toNat ∧ x.toNat ≤ 57 ∧ hexB x = true) ∨ (x.toNat < 48 ∧ hexB x = false) ∨ (57 < x.toNat ∧ x.toNat < 97 ∧ hexB x = false) ∨ (97 ≤ x.toNat ∧ x.toNat ≤ 102 ∧ hexB x = true) ∨ (102 < x.toNat ∧ hexB x = false) := by
  unfold hexB
  simp
  omega
set_option maxHeartbeats 8000000 in
theorem refRight_any (l : List UInt8) (b : Bool) (hb : rightB l = b) (w : World) :
    Calls Tryd.prog 16 #[.string (S l)] w fun e w' => e = .returned (.bool b) ∧ w' = w := by
  have hbt := get_bt (S l)
  obtain ⟨n, hn⟩ : ∃ n, l.length = n := ⟨_, rfl⟩
  have hsz : (S l).size = n := by rw [S_size, hn]
  by_cases h16 : n = 16
  · obtain ⟨j, hj, hg, hbad⟩ : ∃ j, j ≤ 16 ∧ (∀ i, i < j → hexB (l.getD i 0) = true) ∧ (j < 16 → hexB (l.getD j 0) = false) := by
      rcases first_bad (fun i => hexB (l.getD i 0)) 16 with h | ⟨j, hj, h1, h2⟩
      · exact ⟨16, Nat.le_refl _, h, fun h => by omega⟩
      · exact ⟨j, by omega, h1, fun _ => h2⟩
    have hbb : b = decide (j = 16) := by
      rw [← hb]
      unfold rightB
      rw [hn, decide_eq_true h16, Bool.true_and]
      by_cases h : j = 16
      · rw [decide_eq_true h, all_getD]
        intro i hi
        exact hg i (by omega)
      · rw [decide_eq_false h]
        cases ha : l.all hexB
        · rfl
        · have := (all_getD l hexB).1 ha j (by omega)
          rw [hbad (by omega)] at this
          cases this
    have HG := Lib.hid hg
    have HB := Lib.hid hbad
    have HBB := Lib.hid hbb
    have HBS := Lib.hid (fun i => bt_S l i)
    have hs16 : (S l).size = 16 := by rw [hsz, h16]
    clear hg hbad hbb hn hb hsz h16
    generalize S l = s at *
    go_enter Tryd.func16, Tryd.ntmps16
    go_wp2
    go_loopw [3] (fun i wr => ∃ k : Nat, k ≤ j ∧ i = .int .i64 (k : Int) ∧ wr = w) (fun i _ => j - (intOf i).toNat)
    case atStart => exact ⟨0, Nat.zero_le _, rfl, rfl⟩
    case round =>
      obtain ⟨k, hk, rfl, rfl⟩ := hrel
      by_cases hkn : k < 16
      · have hki : (k : Int) < 16 := by omega
        have hbk := HBS.out k
        have hcase := hex_cases (l.getD k 0)
        by_cases hlt : k < j
        · have hd := HG.out k hlt
          rcases hcase with ⟨a1, a2, a3⟩ | ⟨a1, a3⟩ | ⟨a1, a2, a3⟩ | ⟨a1, a2, a3⟩ | ⟨a1, a3⟩
          · have t1 : decide (48 ≤ bt s k) = true := decide_eq_true (by omega)
            have t2 : decide (bt s k ≤ 57) = true := decide_eq_true (by omega)
            clear hbk hd a1 a2 a3
            go_wp2
            go_roundw
            case rel => exact ⟨k + 1, by omega, by go_num, trivial⟩
            case measure => simp [intOf]; omega
          · rw [hd] at a3; cases a3
          · rw [hd] at a3; cases a3
          · have t1 : decide (48 ≤ bt s k) = true := decide_eq_true (by omega)
            have t2 : decide (bt s k ≤ 57) = false := decide_eq_false (by omega)
            have t3 : decide (97 ≤ bt s k) = true := decide_eq_true (by omega)
            have t4 : decide (bt s k ≤ 102) = true := decide_eq_true (by omega)
            clear hbk hd a1 a2 a3
            go_wp2
            go_roundw
            case rel => exact ⟨k + 1, by omega, by go_num, trivial⟩
            case measure => simp [intOf]; omega
          · rw [hd] at a3; cases a3
        · obtain rfl : k = j := by omega
          have hd := HB.out hkn
          obtain rfl : b = false := by rw [HBB.out]; exact decide_eq_false (by omega)
          rcases hcase with ⟨a1, a2, a3⟩ | ⟨a1, a3⟩ | ⟨a1, a2, a3⟩ | ⟨a1, a2, a3⟩ | ⟨a1, a3⟩
          · rw [hd] at a3; cases a3
          · have t1 : decide (48 ≤ bt s k) = false := decide_eq_false (by omega)
            have t3 : decide (97 ≤ bt s k) = false := decide_eq_false (by omega)
            clear hbk hd a1 a3
            go_wp2
            go_ret
            exact ⟨rfl, rfl⟩
          · have t1 : decide (48 ≤ bt s k) = true := decide_eq_true (by omega)
            have t2 : decide (bt s k ≤ 57) = false := decide_eq_false (by omega)
            have t3 : decide (97 ≤ bt s k) = false := decide_eq_false (by omega)
            clear hbk hd a1 a2 a3
            go_wp2
            go_ret
            exact ⟨rfl, rfl⟩
          · rw [hd] at a3; cases a3
          · have t1 : decide (48 ≤ bt s k) = true := decide_eq_true (by omega)
            have t2 : decide (bt s k ≤ 57) = false := decide_eq_false (by omega)
            have t3 : decide (97 ≤ bt s k) = true := decide_eq_true (by omega)
            have t4 : decide (bt s k ≤ 102) = false := decide_eq_false (by omega)
            clear hbk hd a1 a3
            go_wp2
            go_ret
            exact ⟨rfl, rfl⟩
      · obtain rfl : k = 16 := by omega
        obtain rfl : j = 16 := by omega
        obtain rfl : b = true := by rw [HBB.out]; exact decide_eq_true rfl
        go_wp2
        go_ret
        exact ⟨rfl, rfl⟩
  · obtain rfl : b = false := by
      rw [← hb]
      unfold rightB
      rw [hn, decide_eq_false h16]
      rfl
    have t1 : ((n : Int) != 16) = true := by simp; omega
    clear hb
    generalize S l = s at *
    go_enter Tryd.func16, Tryd.ntmps16
    go_wp2
    go_ret
    exact ⟨rfl, rfl⟩

set_option maxHeartbeats 4000000 in
theorem refJoin_any (a b : List UInt8) (ha : a.length ≤ 100000) (hb : b.length ≤ 100000) (w : World) :
    Calls Tryd.prog 14 #[.string (S a), .string (S b)] w fun e w' => e = .returned (.string (S (joinL a b))) ∧ Below w.heap.size w w' := by
  have c := Lib.hid (fun W => refSum_any (49 :: (a ++ b)) (by simp; omega) W)
  have hE : (⟨#[49]⟩ : ByteArray) ++ S a ++ S b = S (49 :: (a ++ b)) := by rw [show (⟨#[49]⟩ : ByteArray) = S [49] from rfl, S_append, S_append]; rfl
  have z1 : (S a).size = a.length := S_size a
  have z2 : (S b).size = b.length := S_size b
  change RowKit.Hid (∀ W : World, Calls Tryd.prog 13 #[.string (S (49 :: (a ++ b)))] W fun e w' => e = .returned (.string (S (joinL a b))) ∧ Below W.heap.size W w') at c
  generalize S (joinL a b) = res at *
  generalize S (49 :: (a ++ b)) = x at *
  generalize S a = sa at *
  generalize S b = sb at *
  go_enter Tryd.func14, Tryd.ntmps14
  go_wp2_with fail
  refine (c.out _).mono ?_
  rintro e w1 ⟨rfl, b1⟩
  go_wp2
  go_ret
  exact ⟨rfl, b1⟩
end Go.Proofs.YtdaoccmhehekaaaDoor
