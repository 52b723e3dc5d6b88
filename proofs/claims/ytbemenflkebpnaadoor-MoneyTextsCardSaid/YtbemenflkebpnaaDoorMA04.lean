/- Package money: Right, Add, Permille, sumOf, at every number. -/
import Derived.Test.YtbemenflkebpnaaDoorR04S
namespace Go.Proofs.YtbemenflkebpnaaDoor
open Go.RowKit

theorem monRight_any (n : Int) (b : Bool) (hb : rightI n = b) (w : World) :
    Calls Tryd.prog 11 #[.int .i64 n] w fun e w' => e = .returned (.bool b) ∧ w' = w := by
  unfold rightI at hb
  cases h1 : decide (0 ≤ n)
  · rw [h1] at hb
    obtain rfl : b = false := hb.symm
    go_enter Tryd.func11, Tryd.ntmps11
    go_wp2
    go_ret
    exact ⟨rfl, rfl⟩
  · cases h2 : decide (n ≤ 100000000)
    all_goals
      rw [h1, h2] at hb
      obtain rfl := hb.symm
      go_enter Tryd.func11, Tryd.ntmps11
      go_wp2
      go_ret
      exact ⟨rfl, rfl⟩

set_option maxHeartbeats 4000000 in
theorem monAdd_any (a b n e : Int) (h : addI a b = (n, e)) (w : World) :
    Calls Tryd.prog 9 #[.int .i64 a, .int .i64 b] w fun e' w' => e' = .returned (.tuple #[.int .i64 n, .int .i64 e]) ∧ w' = w := by
  unfold addI at h
  cases ha : rightI a
  · have c1 := Lib.hid (fun W => monRight_any a false ha W)
    rw [ha, if_neg (fun h => by cases h.1)] at h
    simp only [Prod.mk.injEq] at h
    obtain ⟨rfl, rfl⟩ := h
    go_enter Tryd.func9, Tryd.ntmps9
    go_wp2_with fail
    refine (c1.out _).mono ?_
    rintro e w1 ⟨rfl, rfl⟩
    go_wp2
    go_ret2
    exact ⟨rfl, rfl⟩
  have c1 := Lib.hid (fun W => monRight_any a true ha W)
  cases hb : rightI b
  · have c2 := Lib.hid (fun W => monRight_any b false hb W)
    rw [hb, if_neg (fun h => by cases h.2.1)] at h
    simp only [Prod.mk.injEq] at h
    obtain ⟨rfl, rfl⟩ := h
    clear ha hb
    go_enter Tryd.func9, Tryd.ntmps9
    go_wp2_with fail
    refine (c1.out _).mono ?_
    rintro e w1 ⟨rfl, rfl⟩
    go_wp2_with fail
    refine (c2.out _).mono ?_
    rintro e w1 ⟨rfl, rfl⟩
    go_wp2
    go_ret2
    exact ⟨rfl, rfl⟩
  have c2 := Lib.hid (fun W => monRight_any b true hb W)
  have ra := (rightI_iff a).1 ha
  have rb := (rightI_iff b).1 hb
  cases hs : rightI (a + b)
  · have c3 := Lib.hid (fun W => monRight_any (a + b) false hs W)
    rw [hs, if_neg (fun h => by cases h.2.2)] at h
    simp only [Prod.mk.injEq] at h
    obtain ⟨rfl, rfl⟩ := h
    clear ha hb hs
    go_enter Tryd.func9, Tryd.ntmps9
    go_wp2_with fail
    refine (c1.out _).mono ?_
    rintro e w1 ⟨rfl, rfl⟩
    go_wp2_with fail
    refine (c2.out _).mono ?_
    rintro e w1 ⟨rfl, rfl⟩
    go_wp2_with fail
    refine (c3.out _).mono ?_
    rintro e w1 ⟨rfl, rfl⟩
    go_wp2
    go_ret2
    exact ⟨rfl, rfl⟩
  · have c3 := Lib.hid (fun W => monRight_any (a + b) true hs W)
    rw [if_pos ⟨ha, hb, hs⟩] at h
    simp only [Prod.mk.injEq] at h
    obtain ⟨rfl, rfl⟩ := h
    clear ha hb hs
    go_enter Tryd.func9, Tryd.ntmps9
    go_wp2_with fail
    refine (c1.out _).mono ?_
    rintro e w1 ⟨rfl, rfl⟩
    go_wp2_with fail
    refine (c2.out _).mono ?_
    rintro e w1 ⟨rfl, rfl⟩
    go_wp2_with fail
    refine (c3.out _).mono ?_
    rintro e w1 ⟨rfl, rfl⟩
    go_wp2
    go_ret2
    exact ⟨rfl, rfl⟩

set_option maxHeartbeats 4000000 in
theorem monPerm_out (n r : Int) (h : ¬ (rightI n = true ∧ 0 ≤ r ∧ r ≤ 1000)) (w : World) :
    Calls Tryd.prog 13 #[.int .i64 n, .int .i64 r] w fun e w' => e = .returned (.int .i64 0) ∧ w' = w := by
  cases hn : rightI n
  · have c1 := Lib.hid (fun W => monRight_any n false hn W)
    clear h hn
    go_enter Tryd.func13, Tryd.ntmps13
    go_wp2_with fail
    refine (c1.out _).mono ?_
    rintro e w1 ⟨rfl, rfl⟩
    go_wp2
    go_ret
    exact ⟨rfl, rfl⟩
  have c1 := Lib.hid (fun W => monRight_any n true hn W)
  by_cases h1 : r < 0
  · have d1 : decide (r < 0) = true := decide_eq_true h1
    clear h hn
    go_enter Tryd.func13, Tryd.ntmps13
    go_wp2_with fail
    refine (c1.out _).mono ?_
    rintro e w1 ⟨rfl, rfl⟩
    go_wp2
    go_ret
    exact ⟨rfl, rfl⟩
  · have d1 : decide (r < 0) = false := decide_eq_false h1
    have d2 : decide (1000 < r) = true := decide_eq_true (by rcases Int.lt_or_le 1000 r with h2 | h2; exact h2; exact absurd ⟨hn, by omega, h2⟩ h)
    clear h hn
    go_enter Tryd.func13, Tryd.ntmps13
    go_wp2_with fail
    refine (c1.out _).mono ?_
    rintro e w1 ⟨rfl, rfl⟩
    go_wp2
    go_ret
    exact ⟨rfl, rfl⟩

set_option maxHeartbeats 8000000 in
theorem monPerm_in (n r : Nat) (hn : n ≤ 100000000) (hr : r ≤ 1000) (w : World) :
    Calls Tryd.prog 13 #[.int .i64 (n : Int), .int .i64 (r : Int)] w fun e w' => e = .returned (.int .i64 (perm n r : Nat)) ∧ w' = w := by
  have c1 := Lib.hid (fun W => monRight_any (n : Int) true (by rw [rightI_iff]; omega) W)
  have d1 : decide ((r : Int) < 0) = false := by simp
  have d2 : decide ((1000 : Int) < (r : Int)) = false := by simp; omega
  have hp : n * r ≤ 100000000000 := Nat.mul_le_mul hn hr
  have hc : (n : Int) * (r : Int) = ((n * r : Nat) : Int) := (Int.natCast_mul n r).symm
  have hperm : RowKit.Hid (perm n r = rnd (n * r)) := rfl
  generalize n * r = p at hp hc hperm
  have q1 : Int.tdiv (p : Int) 1000 = ((p / 1000 : Nat) : Int) := by rw [Int.tdiv_eq_ediv_of_nonneg (by omega)]; omega
  have q2 : (p : Int) / 1000 = ((p / 1000 : Nat) : Int) := by omega
  have m1 : Int.tmod (p : Int) 1000 = ((p % 1000 : Nat) : Int) := by rw [Int.tmod_eq_emod_of_nonneg (by omega)]; omega
  have m2 : (p : Int) % 1000 = ((p % 1000 : Nat) : Int) := by omega
  have hq : p / 1000 ≤ 100000000 := by omega
  have hm : p % 1000 ≤ 999 := by omega
  unfold rnd at hperm
  generalize p / 1000 = q at *
  generalize p % 1000 = m at *
  have m3 : Int.tmod (q : Int) 2 = ((q % 2 : Nat) : Int) := by rw [Int.tmod_eq_emod_of_nonneg (by omega)]; omega
  have m4 : (q : Int) % 2 = ((q % 2 : Nat) : Int) := by omega
  have ho : q % 2 ≤ 1 := by omega
  generalize q % 2 = o at *
  by_cases h1 : 500 < m
  · have d3 : decide ((1000 : Int) < 2 * (m : Int)) = true := by simp; omega
    have hp2 : RowKit.Hid (perm n r = q + 1) := hperm.trans (if_pos (.inl h1))
    clear hperm h1
    go_enter Tryd.func13, Tryd.ntmps13
    go_wp2_with fail
    refine (c1.out _).mono ?_
    rintro e w1 ⟨rfl, rfl⟩
    go_wp2
    go_ret
    rw [hp2.out]
    exact ⟨rfl, rfl⟩
  have d3 : decide ((1000 : Int) < 2 * (m : Int)) = false := by simp; omega
  by_cases h2 : m = 500
  · have d4 : (2 * (m : Int) == 1000) = true := by simp; omega
    by_cases h3 : o = 1
    · have d5 : ((o : Int) == 1) = true := by simp; omega
      have hp2 : RowKit.Hid (perm n r = q + 1) := hperm.trans (if_pos (.inr ⟨h2, h3⟩))
      clear hperm h1 h2 h3
      go_enter Tryd.func13, Tryd.ntmps13
      go_wp2_with fail
      refine (c1.out _).mono ?_
      rintro e w1 ⟨rfl, rfl⟩
      go_wp2
      go_ret
      rw [hp2.out]
      exact ⟨rfl, rfl⟩
    · have d5 : ((o : Int) == 1) = false := by simp; omega
      have hp2 : RowKit.Hid (perm n r = q) := hperm.trans (if_neg (by omega))
      clear hperm h1 h2 h3
      go_enter Tryd.func13, Tryd.ntmps13
      go_wp2_with fail
      refine (c1.out _).mono ?_
      rintro e w1 ⟨rfl, rfl⟩
      go_wp2
      go_ret
      rw [hp2.out]
      exact ⟨rfl, rfl⟩
  · have d4 : (2 * (m : Int) == 1000) = false := by simp; omega
    have hp2 : RowKit.Hid (perm n r = q) := hperm.trans (if_neg (by omega))
    clear hperm h1 h2
    go_enter Tryd.func13, Tryd.ntmps13
    go_wp2_with fail
    refine (c1.out _).mono ?_
    rintro e w1 ⟨rfl, rfl⟩
    go_wp2
    go_ret
    rw [hp2.out]
    exact ⟨rfl, rfl⟩

theorem monPerm_any (n r v : Int) (h : permI n r = v) (w : World) :
    Calls Tryd.prog 13 #[.int .i64 n, .int .i64 r] w fun e w' => e = .returned (.int .i64 v) ∧ w' = w := by
  subst h
  unfold permI
  by_cases h : rightI n = true ∧ 0 ≤ r ∧ r ≤ 1000
  · rw [if_pos h]
    obtain ⟨h1, h2, h3⟩ := h
    rw [rightI_iff] at h1
    obtain ⟨a, rfl⟩ : ∃ a : Nat, n = (a : Int) := ⟨n.toNat, by omega⟩
    obtain ⟨b, rfl⟩ : ∃ b : Nat, r = (b : Int) := ⟨r.toNat, by omega⟩
    exact monPerm_in a b (by omega) (by omega) w
  · rw [if_neg h]
    exact monPerm_out n r h w
/-- The sum of weights by which an amount can be divided, or 0. -/
def sumS (l : List Int) : Nat := if l.length ≤ 16 ∧ l.all okW = true then sumN (wN l) l.length else 0
theorem sumS_le (l : List Int) : sumS l ≤ 16000 := by
  unfold sumS
  split
  · rename_i h
    have := sumW_le l l.length fun i hi => (okW_at l i hi ((all_okW l).1 h.2 i hi)).2
    omega
  · exact Nat.zero_le _

theorem monSum_long (v : Value) (l : List Int) (w : World) (hv : IL v l w) (hz : l.length ≤ 1000000) (h : 16 < l.length) :
    Calls Tryd.prog 22 #[v] w fun e w' => e = .returned (.int .i64 0) ∧ w' = w := by
  obtain ⟨a, cap, rfl, hc, _⟩ := hv
  generalize l.length = n at *
  have d2 : decide ((16 : Int) < (n : Int)) = true := by simp; omega
  go_enter Tryd.func22, Tryd.ntmps22
  go_wp2
  go_ret
  exact ⟨rfl, rfl⟩

set_option maxHeartbeats 16000000 in
set_option maxRecDepth 100000 in
theorem monSum_body (v : Value) (l : List Int) (w : World) (hv : IL v l w) (h16 : l.length ≤ 16) (j : Nat) (hj : j ≤ l.length)
    (hg : ∀ i (h : i < l.length), i < j → okW l[i] = true) (hb : ∀ h : j < l.length, okW l[j] = false) (r : Nat) (hr : (if j = l.length then sumN (wN l) l.length else 0) = r) :
    Calls Tryd.prog 22 #[v] w fun e w' => e = .returned (.int .i64 (r : Int)) ∧ w' = w := by
  obtain ⟨a, cap, rfl, hc, hcell⟩ := hv
  obtain ⟨n, hn⟩ : ∃ n, l.length = n := ⟨_, rfl⟩
  have d2 : decide ((16 : Int) < (n : Int)) = false := by simp; omega
  have HN := Lib.hid hn
  have HG := Lib.hid hg
  have HB := Lib.hid hb
  have HC := Lib.hid hcell
  rw [hn] at hc h16 hj hr ⊢
  have HR := Lib.hid hr
  clear hg hb hcell hn hr
  go_enter Tryd.func22, Tryd.ntmps22
  go_wp2
  go_loopw [3, 11] (fun s i wr => ∃ k : Nat, k ≤ j ∧ i = .int .i64 (k : Int) ∧ s = .int .i64 ((sumN (wN l) k : Nat) : Int) ∧ wr = w) (fun _ i _ => j - (intOf i).toNat)
  case atStart => exact ⟨0, Nat.zero_le _, rfl, rfl, rfl⟩
  case round =>
    obtain ⟨k, hk, rfl, rfl, rfl⟩ := hrel
    have hsk : RowKit.Hid (sumN (wN l) k ≤ k * 1000) := sumW_le l k fun i hi => (okW_at l i (by have := HN.out; omega) (HG.out i (by have := HN.out; omega) (by omega))).2
    by_cases hkn : k < n
    · have hkl : k < l.length := by have := HN.out; omega
      obtain ⟨g, o, rfl, hg, k1⟩ := HC.out k l[k] (List.getElem?_eq_getElem hkl)
      have i1 : (0 : Int) ≤ (k : Int) := by omega
      have i2 : (k : Int) < (n : Int) := by omega
      by_cases hlt : k < j
      · have hx := okW_at l k hkl (HG.out k hkl hlt)
        have HV : RowKit.Hid (sumN (wN l) (k + 1) = sumN (wN l) k + wN l k) := rfl
        rw [hx.1] at k1
        have hx2 := hx.2
        clear hx
        have hsb : sumN (wN l) k ≤ 16000 := by have := hsk.out; omega
        generalize sumN (wN l) k = s at *
        generalize wN l k = x at *
        have t1 : decide ((x : Int) < 0) = false := by simp
        have t2 : decide ((1000 : Int) < (x : Int)) = false := by simp; omega
        go_wp2
        go_roundw
        case rel => exact ⟨k + 1, by omega, by go_num, by rw [HV.out]; go_num, trivial⟩
        case measure => simp [intOf]; omega
      · obtain rfl : k = j := by omega
        have hx := HB.out hkl
        have hr0 := HR.out
        rw [if_neg (by omega)] at hr0
        subst hr0
        unfold okW at hx
        generalize l[k] = x at *
        generalize sumN (wN l) k = s at *
        by_cases h0 : x < 0
        · have t1 : decide (x < 0) = true := decide_eq_true h0
          clear hx
          go_wp2
          go_ret
          exact ⟨rfl, rfl⟩
        · have t1 : decide (x < 0) = false := decide_eq_false h0
          have t2 : decide (1000 < x) = true := by
            rw [decide_eq_true (show 0 ≤ x by omega), Bool.true_and] at hx
            have := of_decide_eq_false hx
            exact decide_eq_true (by omega)
          clear hx
          go_wp2
          go_ret
          exact ⟨rfl, rfl⟩
    · obtain rfl : k = n := by omega
      obtain rfl : j = k := by omega
      have hr0 := HR.out
      rw [if_pos rfl] at hr0
      rw [hr0]
      clear HR hr0
      go_wp2
      go_ret
      exact ⟨rfl, rfl⟩

theorem monSum_any (v : Value) (l : List Int) (w : World) (hv : IL v l w) (hz : l.length ≤ 1000000) (r : Nat) (hr : sumS l = r) :
    Calls Tryd.prog 22 #[v] w fun e w' => e = .returned (.int .i64 (r : Int)) ∧ w' = w := by
  subst hr
  by_cases h16 : l.length ≤ 16
  · rcases all_first l with hg | ⟨j, hj, hg, hb⟩
    · have h : sumS l = sumN (wN l) l.length := if_pos ⟨h16, (all_okW l).2 hg⟩
      exact monSum_body v l w hv h16 l.length (Nat.le_refl _) (fun i hi _ => hg i hi) (fun h => absurd h (Nat.lt_irrefl _)) _ (by rw [if_pos rfl, h])
    · have h : sumS l = 0 := if_neg fun h => by
        have := (all_okW l).1 h.2 j hj
        rw [hb] at this
        cases this
      exact monSum_body v l w hv h16 j (Nat.le_of_lt hj) hg (fun _ => hb) _ (by rw [if_neg (by omega), h])
  · have h : sumS l = 0 := if_neg fun h => h16 h.1
    rw [h]
    exact monSum_long v l w hv hz (by omega)
theorem okS_sum (t : Int) (l : List Int) : okS t l = (rightI t && decide (sumS l ≠ 0)) := by
  unfold okS sumS
  by_cases h : l.length ≤ 16 ∧ l.all okW = true
  · rw [if_pos h]
    rcases Nat.eq_zero_or_pos l.length with h0 | h0
    · rw [h0]
      simp [sumN]
    · rw [h.2, decide_eq_true h.1, decide_eq_true (show 1 ≤ l.length from h0)]
      simp
  · rw [if_neg h]
    rcases Classical.not_and_iff_not_or_not.1 h with h1 | h1
    · rw [decide_eq_false h1]
      simp
    · rw [show l.all okW = false by simpa using h1]
      simp
end Go.Proofs.YtbemenflkebpnaaDoor
