/- Package barcode: numbered, lengthened, Make. -/
import Derived.Test.YtnbjgkhngolhfaaDoorTab05
import Derived.Test.YtnbjgkhngolhfaaDoorBB05
namespace Go.Proofs.YtnbjgkhngolhfaaDoor
open Go.RowKit Go.PlainAid

theorem trim_length (l : List UInt8) : (Lib.trimSuffix l [88]).length ≤ l.length := by
  unfold Lib.trimSuffix
  split
  · rw [List.length_take]; omega
  · exact Nat.le_refl _

set_option maxHeartbeats 4000000 in
theorem barnumd_any (l : List UInt8) (hz : l.length ≤ 1000000) (h1 : 1 ≤ l.length) (b : Bool) (hb : endedB l = b) (w : World) :
    Calls Tryd.prog 33 #[.string (S l)] w fun e w' => e = .returned (.bool b) ∧ w' = w := by
  have hl := trim_length l
  have c1 := Lib.hid (trim_any l hz w)
  have c2 := Lib.hid (barnum_any (Lib.trimSuffix l [88]) (by omega) b ((trim_ended l h1).trans hb) w)
  clear hb
  generalize S (Lib.trimSuffix l [88]) = t at *
  generalize S l = s at *
  go_enter Tryd.func33, Tryd.ntmps33
  go_wp2_with fail
  refine (c1.out).mono ?_
  rintro e w1 ⟨rfl, rfl⟩
  go_wp2_with fail
  refine (c2.out).mono ?_
  rintro e w1 ⟨rfl, rfl⟩
  go_wp2
  go_ret
  exact ⟨rfl, rfl⟩

/-- A short number, lengthened. -/
def longer (t : List UInt8) : List UInt8 := [57, 55, 56] ++ t.take 9 ++ [dgt (comp (altS ([57, 55, 56] ++ t.take 9)))]
set_option maxHeartbeats 8000000 in
theorem barlong_any (t : List UInt8) (h10 : t.length = 10) (he : endedB t = true) (w : World) :
    Calls Tryd.prog 35 #[.string (S t)] w fun e w' => e = .returned (.string (S (longer t))) ∧ w' = w := by
  have hu : (S t).size = 10 := by rw [S_size, h10]
  obtain ⟨p, hp⟩ : ∃ p, ([57, 55, 56] ++ t.take 9 : List UInt8) = p := ⟨_, rfl⟩
  have f1 : (S t).extract 0 9 = S (t.take 9) := by rw [S_extract]; rfl
  have f2 : (⟨#[57, 55, 56]⟩ : ByteArray) ++ S (t.take 9) = S p := by rw [show (⟨#[57, 55, 56]⟩ : ByteArray) = S [57, 55, 56] from rfl, S_append, hp]
  have z1 : (S (t.take 9)).size = 9 := by rw [S_size, List.length_take]; omega
  have hp12 : p.length = 12 := by rw [← hp, List.length_append, List.length_take]; simp; omega
  have z2 : (S p).size = 12 := by rw [S_size, hp12]
  have hpd : p.all digB = true := by
    rw [← hp, List.all_append, Bool.and_eq_true]
    refine ⟨by decide, ?_⟩
    obtain ⟨_, h2, _⟩ := ended_at t he
    rw [all_getD]
    intro i hi
    rw [List.length_take] at hi
    rw [getD_take _ _ _ (by omega)]
    exact h2 i (by omega)
  have c1 := Lib.hid (baralt_any p (by omega) hpd w)
  have c2 := Lib.hid (barcomp_any (altS p) (by have := altS_le p (by omega); omega) w)
  have c3 := Lib.hid (itoa_digit (comp (altS p)) (comp_le _) w)
  have F3 : RowKit.Hid (S p ++ S [dgt (comp (altS p))] = S (longer t)) := by unfold RowKit.Hid longer; rw [hp]; exact S_append _ _
  have z3 : (S [dgt (comp (altS p))]).size = 1 := rfl
  clear hpd he hp
  generalize S (longer t) = res at *
  generalize S [dgt (comp (altS p))] = sd at *
  generalize comp (altS p) = cc at *
  generalize altS p = a at *
  generalize S p = sp at *
  generalize S (t.take 9) = tk at *
  generalize S t = u at *
  go_enter Tryd.func35, Tryd.ntmps35
  go_wp2_with fail
  refine (c1.out).mono ?_
  rintro e w1 ⟨rfl, rfl⟩
  go_wp2_with fail
  refine (c2.out).mono ?_
  rintro e w1 ⟨rfl, rfl⟩
  go_wp2_with fail
  refine (c3.out).mono ?_
  rintro e w1 ⟨rfl, rfl⟩
  go_wp2
  go_ret
  rw [← F3.out]
  exact ⟨rfl, rfl⟩

set_option maxHeartbeats 8000000 in
theorem barMake_bad (k n : Int) (er : Int) (h : (¬ (k = 2 ∨ k = 3) ∧ er = 1) ∨ ((k = 2 ∨ k = 3) ∧ ¬ (0 ≤ n ∧ n ≤ 9999) ∧ er = 2)) (w : World) :
    Calls Tryd.prog 15 #[.int .i64 k, .int .i64 n] w fun e w' => e = .returned (.tuple #[.string ⟨#[]⟩, .int .i64 er]) ∧ Below w.heap.size w w' := by
  rcases h with ⟨h, rfl⟩ | ⟨h, hn, rfl⟩
  · have t1 : (k != 2) = true := by simp; omega
    have t2 : (k != 3) = true := by simp; omega
    have t3 : (k == 2) = false := by simp; omega
    have t4 : (k == 3) = false := by simp; omega
    clear h
    go_enter Tryd.func15, Tryd.ntmps15
    go_wp2
    go_ret2
    exact ⟨rfl, Below.refl _ _⟩
  · by_cases h0 : n < 0
    · have d1 : decide (n < 0) = true := decide_eq_true h0
      clear hn
      rcases h with rfl | rfl
      all_goals
        go_enter Tryd.func15, Tryd.ntmps15
        go_wp2
        go_ret2
        exact ⟨rfl, Below.refl _ _⟩
    · have d1 : decide (n < 0) = false := decide_eq_false h0
      have d2 : decide (9999 < n) = true := decide_eq_true (by omega)
      clear hn
      rcases h with rfl | rfl
      all_goals
        go_enter Tryd.func15, Tryd.ntmps15
        go_wp2
        go_ret2
        exact ⟨rfl, Below.refl _ _⟩

set_option maxHeartbeats 16000000 in
set_option maxRecDepth 100000 in
theorem barMake_ok (k n : Nat) (hk : k = 2 ∨ k = 3) (hn : n ≤ 9999) (w : World) (hT : Tab w) :
    Calls Tryd.prog 15 #[.int .i64 (k : Int), .int .i64 (n : Int)] w fun e w' => e = .returned (.tuple #[.string (S (mkL k n)), .int .i64 0]) ∧ Below w.heap.size w w' := by
  obtain ⟨hl1, hl4⟩ := dec_four n hn
  have c1 := Lib.hid (itoa_any n (by omega) w hT)
  have c2 := Lib.hid (fun W => itoa_digit k (by omega) W)
  have c3 := Lib.hid (fun W => nought_any (12 - (Lib.decDigits n).length) (by omega) W)
  have c4 := Lib.hid (fun W => barluhn_any (mkB k n) (by rw [mkB_length]; decide) (mkB_digs k n (by omega)) W)
  have c5 := Lib.hid (fun W => itoa_digit (luhnC (mkB k n)) (comp_le _) W)
  have hE : S [dgt k] ++ S (Lib.repeatL [48] (12 - (Lib.decDigits n).length)) ++ S (Lib.decDigits n) = S (mkB k n) := by
    rw [S_append, S_append, ← body_of k n (by omega) hn, dec_one k (by omega)]
  have HF : RowKit.Hid (S (mkB k n) ++ S [dgt (luhnC (mkB k n))] = S (mkL k n)) := S_append _ _
  have z1 : (S [dgt k]).size = 1 := rfl
  have z2 : (S (Lib.repeatL [48] (12 - (Lib.decDigits n).length))).size = 12 - (Lib.decDigits n).length := by rw [S_size, Lib.repeatL_length]; simp
  have z3 : (S (Lib.decDigits n)).size = (Lib.decDigits n).length := S_size _
  have z4 : (S (mkB k n)).size = 13 := by rw [S_size, mkB_length]
  have z5 : (S [dgt (luhnC (mkB k n))]).size = 1 := rfl
  have e1 : (12 : Int) - (((Lib.decDigits n).length : Nat) : Int) = ((12 - (Lib.decDigits n).length : Nat) : Int) := by omega
  have d1 : decide ((n : Int) < 0) = false := by simp
  have d2 : decide ((9999 : Int) < (n : Int)) = false := by simp; omega
  have hk2 : ((k : Int) != 2) = false ∨ ((k : Int) != 2) = true ∧ ((k : Int) != 3) = false := by
    rcases hk with rfl | rfl
    · exact .inl rfl
    · exact .inr ⟨rfl, rfl⟩
  have hk9 : k ≤ 9 := by omega
  have hc9 : luhnC (mkB k n) ≤ 9 := comp_le _
  generalize S [dgt (luhnC (mkB k n))] = sc at *
  generalize luhnC (mkB k n) = lc at *
  generalize S (mkL k n) = res at *
  generalize S (mkB k n) = sb at *
  generalize S [dgt k] = sk at *
  generalize S (Lib.repeatL [48] (12 - (Lib.decDigits n).length)) = sr at *
  generalize S (Lib.decDigits n) = sn at *
  generalize (Lib.decDigits n).length = ln at *
  obtain ⟨q, hq⟩ : ∃ q, 12 - ln = q := ⟨_, rfl⟩
  rw [hq] at e1 z2 c3
  have hq12 : q ≤ 12 := by omega
  clear hk hq
  rcases hk2 with t1 | ⟨t1, t2⟩
  all_goals
    go_enter Tryd.func15, Tryd.ntmps15
    go_wp2_with fail
    refine (c1.out).mono ?_
    rintro e w1 ⟨rfl, b1⟩
    go_wp2_with fail
    refine (c2.out _).mono ?_
    rintro e w2 ⟨rfl, rfl⟩
    go_wp2_with fail
    refine (c3.out _).mono ?_
    rintro e w2 ⟨rfl, c⟩
    have b2 := b1.trans (c.mono b1.size)
    clear c
    go_wp2_with fail
    refine (c4.out _).mono ?_
    rintro e w3 ⟨rfl, rfl⟩
    go_wp2_with fail
    refine (c5.out _).mono ?_
    rintro e w3 ⟨rfl, rfl⟩
    go_wp2
    go_ret2
    rw [← HF.out]
    exact ⟨rfl, b2⟩

theorem barMake_any (k n : Int) (l : List UInt8) (er : Int) (h : makeI k n = (l, er)) (w : World) (hT : Tab w) :
    Calls Tryd.prog 15 #[.int .i64 k, .int .i64 n] w fun e w' => e = .returned (.tuple #[.string (S l), .int .i64 er]) ∧ Below w.heap.size w w' := by
  unfold makeI at h
  by_cases hk : k = 2 ∨ k = 3
  · rw [if_pos hk] at h
    by_cases hn : 0 ≤ n ∧ n ≤ 9999
    · rw [if_pos hn] at h
      simp only [Prod.mk.injEq] at h
      obtain ⟨rfl, rfl⟩ := h
      obtain ⟨a, rfl⟩ : ∃ a : Nat, k = (a : Int) := ⟨k.toNat, by omega⟩
      obtain ⟨b, rfl⟩ : ∃ b : Nat, n = (b : Int) := ⟨n.toNat, by omega⟩
      exact barMake_ok a b (by omega) (by omega) w hT
    · rw [if_neg hn] at h
      simp only [Prod.mk.injEq] at h
      obtain ⟨rfl, rfl⟩ := h
      exact barMake_bad k n 2 (.inr ⟨hk, hn, rfl⟩) w
  · rw [if_neg hk] at h
    simp only [Prod.mk.injEq] at h
    obtain ⟨rfl, rfl⟩ := h
    exact barMake_bad k n 1 (.inl ⟨hk, rfl⟩) w
end Go.Proofs.YtnbjgkhngolhfaaDoor
