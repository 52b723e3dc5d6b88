/- libraryref05: Digits, luhn, Luhn, digit, alternating, weighted. -/
import Derived.Test.YtnbjgkhngolhfaaDoorPlain05
namespace Go.Proofs.YtnbjgkhngolhfaaDoor
open Go.RowKit Go.PlainAid

theorem all_getD (l : List UInt8) (p : UInt8 → Bool) : l.all p = true ↔ ∀ i, i < l.length → p (l.getD i 0) = true := by
  rw [List.all_eq_true]
  constructor
  · intro h i hi
    rw [List.getD_eq_getElem?_getD, List.getElem?_eq_getElem hi]
    exact h _ (List.getElem_mem hi)
  · intro h x hx
    obtain ⟨i, hi, rfl⟩ := List.getElem_of_mem hx
    have := h i hi
    rwa [List.getD_eq_getElem?_getD, List.getElem?_eq_getElem hi] at this

set_option maxHeartbeats 8000000 in
theorem refDigs_any (l : List UInt8) (hz : l.length ≤ 1000000) (b : Bool) (hb : l.all digB = b) (w : World) :
    Calls Tryd.prog 25 #[.string (S l)] w fun e w' => e = .returned (.bool b) ∧ w' = w := by
  have hbt := get_bt (S l)
  obtain ⟨n, hn⟩ : ∃ n, l.length = n := ⟨_, rfl⟩
  have hsz : (S l).size = n := by rw [S_size, hn]
  obtain ⟨j, hj, hg, hbad⟩ : ∃ j, j ≤ n ∧ (∀ i, i < j → digB (l.getD i 0) = true) ∧ (j < n → digB (l.getD j 0) = false) := by
    rcases first_bad (fun i => digB (l.getD i 0)) n with h | ⟨j, hj, h1, h2⟩
    · exact ⟨n, Nat.le_refl _, h, fun h => by omega⟩
    · exact ⟨j, by omega, h1, fun _ => h2⟩
  have hbb : b = decide (j = n) := by
    rw [← hb]
    by_cases h : j = n
    · rw [decide_eq_true h, all_getD]
      intro i hi
      exact hg i (by omega)
    · rw [decide_eq_false h]
      cases ha : l.all digB
      · rfl
      · have := (all_getD l digB).1 ha j (by omega)
        rw [hbad (by omega)] at this
        cases this
  have HG := Lib.hid hg
  have HB := Lib.hid hbad
  have HBB := Lib.hid hbb
  have hbs := fun i => bt_S l i
  have HBS := Lib.hid hbs
  rw [hn] at hz
  clear hg hbad hbb hbs hn hb
  generalize S l = s at *
  go_enter Tryd.func25, Tryd.ntmps25
  go_wp2
  go_loopw [3] (fun i wr => ∃ k : Nat, k ≤ j ∧ i = .int .i64 (k : Int) ∧ wr = w) (fun i _ => j - (intOf i).toNat)
  case atStart => exact ⟨0, Nat.zero_le _, rfl, rfl⟩
  case round =>
    obtain ⟨k, hk, rfl, rfl⟩ := hrel
    by_cases hkn : k < n
    · have hki : (k : Int) < (n : Int) := by omega
      have hbk := HBS.out k
      by_cases hlt : k < j
      · have hd := (digB_iff _).1 (HG.out k hlt)
        have t1 : decide (bt s k < 48) = false := decide_eq_false (by omega)
        have t2 : decide (57 < bt s k) = false := decide_eq_false (by omega)
        clear hbk hd
        go_wp2
        go_roundw
        case rel => exact ⟨k + 1, by omega, by go_num, trivial⟩
        case measure => simp [intOf]; omega
      · obtain rfl : k = j := by omega
        have hd := HB.out hkn
        obtain rfl : b = false := by rw [HBB.out]; exact decide_eq_false (by omega)
        by_cases h0 : bt s k < 48
        · have t1 : decide (bt s k < 48) = true := decide_eq_true h0
          clear hbk hd
          go_wp2
          go_ret
          exact ⟨rfl, rfl⟩
        · have t1 : decide (bt s k < 48) = false := decide_eq_false h0
          have t2 : decide (57 < bt s k) = true := by
            refine decide_eq_true ?_
            rcases Int.lt_or_le 57 (bt s k) with h | h
            · exact h
            · have : digB (l.getD k 0) = true := (digB_iff _).2 (by omega)
              rw [this] at hd
              cases hd
          clear hbk hd
          go_wp2
          go_ret
          exact ⟨rfl, rfl⟩
    · obtain rfl : k = n := by omega
      obtain rfl : j = k := by omega
      obtain rfl : b = true := by rw [HBB.out]; exact decide_eq_true rfl
      go_wp2
      go_ret
      exact ⟨rfl, rfl⟩

set_option maxHeartbeats 8000000 in
theorem refluhn_any (l : List UInt8) (hz : l.length ≤ 1000000) (hd : l.all digB = true) (w : World) :
    Calls Tryd.prog 26 #[.string (S l)] w fun e w' => e = .returned (.int .i64 (luhnC l : Nat)) ∧ w' = w := by
  have hbt := get_bt (S l)
  obtain ⟨n, hn⟩ : ∃ n, l.length = n := ⟨_, rfl⟩
  have hsz : (S l).size = n := by rw [S_size, hn]
  have hdg := (all_getD l digB).1 hd
  have HD := Lib.hid (fun i (hi : i < n) => dv_le l i (hdg i (by omega)))
  have HBS := Lib.hid (fun i => bt_S l i)
  have HC : RowKit.Hid (luhnC l = comp (addN (fun i => lw i (dv l (n - 1 - i))) n)) := by unfold RowKit.Hid luhnC luhnS; rw [hn]
  have HSum := Lib.hid (fun k (hk : k ≤ n) => addN_le (fun i => lw i (dv l (n - 1 - i))) 9 k (fun i hi => lw_le _ _ (dv_le l _ (hdg _ (by omega))).1))
  rw [hn] at hz
  clear hdg hd hn
  generalize luhnC l = cc at *
  generalize S l = s at *
  go_enter Tryd.func26, Tryd.ntmps26
  go_wp2
  go_loopw [3, 4] (fun su i wr => ∃ k : Nat, k ≤ n ∧ i = .int .i64 (k : Int) ∧ su = .int .i64 ((addN (fun i => lw i (dv l (n - 1 - i))) k : Nat) : Int) ∧ wr = w) (fun _ i _ => n - (intOf i).toNat)
  case atStart => exact ⟨0, Nat.zero_le _, rfl, rfl, rfl⟩
  case round =>
    obtain ⟨k, hk, rfl, rfl, rfl⟩ := hrel
    have hsb : addN (fun i => lw i (dv l (n - 1 - i))) k ≤ 9000000 := by have := HSum.out k hk; omega
    by_cases hkn : k < n
    · have HV : RowKit.Hid (addN (fun i => lw i (dv l (n - 1 - i))) (k + 1) = addN (fun i => lw i (dv l (n - 1 - i))) k + lw k (dv l (n - 1 - k))) := rfl
      obtain ⟨hd9, hdb⟩ := HD.out (n - 1 - k) (by omega)
      have hv := HBS.out (n - 1 - k)
      rw [hdb] at hv
      have e1 : (n : Int) - 1 - (k : Int) = ((n - 1 - k : Nat) : Int) := by omega
      have n1 : n - 1 - k < n := by omega
      have i1 : ((n - 1 - k : Nat) : Int) < (n : Int) := by omega
      have hv : bt s (n - 1 - k) = 48 + ((dv l (n - 1 - k) : Nat) : Int) := by rw [hv]; omega
      have hlw : RowKit.Hid (∀ o, k % 2 = o → lw k (dv l (n - 1 - k)) = if o = 0 then dbl (dv l (n - 1 - k)) else dv l (n - 1 - k)) := by rintro o rfl; rfl
      generalize addN (fun i => lw i (dv l (n - 1 - i))) k = sx at *
      generalize lw k (dv l (n - 1 - k)) = x at *
      generalize dv l (n - 1 - k) = d at *
      generalize n - 1 - k = p at *
      have r1 : Int.tmod (k : Int) 2 = ((k % 2 : Nat) : Int) := by rw [Int.tmod_eq_emod_of_nonneg (by omega)]; omega
      have r2 : (k : Int) % 2 = ((k % 2 : Nat) : Int) := by omega
      have ho : k % 2 ≤ 1 := by omega
      have hlw := Lib.hid (hlw.out (k % 2) rfl)
      generalize k % 2 = o at *
      by_cases h0 : o = 0
      · subst h0
        have hx : RowKit.Hid (x = 2 * d / 10 + 2 * d % 10) := hlw.out
        have q1 : Int.tdiv ((d : Int) * 2) 10 = ((2 * d / 10 : Nat) : Int) := by rw [Int.tdiv_eq_ediv_of_nonneg (by omega)]; omega
        have q2 : ((d : Int) * 2) / 10 = ((2 * d / 10 : Nat) : Int) := by omega
        have m1 : Int.tmod ((d : Int) * 2) 10 = ((2 * d % 10 : Nat) : Int) := by rw [Int.tmod_eq_emod_of_nonneg (by omega)]; omega
        have m2 : ((d : Int) * 2) % 10 = ((2 * d % 10 : Nat) : Int) := by omega
        have hq : 2 * d / 10 ≤ 1 := by omega
        have hm : 2 * d % 10 ≤ 9 := by omega
        clear hlw
        generalize 2 * d / 10 = q at *
        generalize 2 * d % 10 = m at *
        go_wp2
        go_roundw
        case rel => exact ⟨k + 1, by omega, by go_num, by rw [HV.out, hx.out]; go_num, trivial⟩
        case measure => simp [intOf]; omega
      · have hx : RowKit.Hid (x = d) := hlw.out.trans (if_neg h0)
        have t1 : ((o : Int) == 0) = false := by simp; omega
        clear hlw
        go_wp2
        go_roundw
        case rel => exact ⟨k + 1, by omega, by go_num, by rw [HV.out, hx.out]; go_num, trivial⟩
        case measure => simp [intOf]; omega
    · obtain rfl : k = n := by omega
      have hcc := HC.out
      generalize addN (fun i => lw i (dv l (k - 1 - i))) k = sx at *
      have m1 : Int.tmod (sx : Int) 10 = ((sx % 10 : Nat) : Int) := by rw [Int.tmod_eq_emod_of_nonneg (by omega)]; omega
      have m2 : (sx : Int) % 10 = ((sx % 10 : Nat) : Int) := by omega
      have hm : sx % 10 ≤ 9 := by omega
      unfold comp at hcc
      generalize sx % 10 = m at *
      have m3 : Int.tmod (10 - (m : Int)) 10 = ((cc : Nat) : Int) := by rw [Int.tmod_eq_emod_of_nonneg (by omega)]; omega
      have m4 : (10 - (m : Int)) % 10 = ((cc : Nat) : Int) := by omega
      clear hcc
      go_wp2
      go_ret
      exact ⟨rfl, rfl⟩

set_option maxHeartbeats 4000000 in
theorem refLuhn_any (l : List UInt8) (hz : l.length ≤ 1000000) (x er : Int) (h : luhnI l = (x, er)) (w : World) :
    Calls Tryd.prog 14 #[.string (S l)] w fun e w' => e = .returned (.tuple #[.int .i64 x, .int .i64 er]) ∧ w' = w := by
  obtain ⟨n, hn⟩ : ∃ n, l.length = n := ⟨_, rfl⟩
  have hsz : (S l).size = n := by rw [S_size, hn]
  unfold luhnI at h
  by_cases h1 : n < 1
  · have d1 : decide ((n : Int) < 1) = true := by simp; omega
    rw [if_neg (by omega)] at h
    simp only [Prod.mk.injEq] at h
    obtain ⟨rfl, rfl⟩ := h
    generalize S l = s at *
    go_enter Tryd.func14, Tryd.ntmps14
    go_wp2
    go_ret2
    exact ⟨rfl, rfl⟩
  have d1 : decide ((n : Int) < 1) = false := by simp; omega
  by_cases h2 : 20 < n
  · have d2 : decide ((20 : Int) < (n : Int)) = true := by simp; omega
    rw [if_neg (by omega)] at h
    simp only [Prod.mk.injEq] at h
    obtain ⟨rfl, rfl⟩ := h
    generalize S l = s at *
    go_enter Tryd.func14, Tryd.ntmps14
    go_wp2
    go_ret2
    exact ⟨rfl, rfl⟩
  have d2 : decide ((20 : Int) < (n : Int)) = false := by simp; omega
  cases hd : l.all digB
  · have c1 := Lib.hid (fun W => refDigs_any l hz false hd W)
    rw [hd, if_neg (fun h => by cases h.2.2)] at h
    simp only [Prod.mk.injEq] at h
    obtain ⟨rfl, rfl⟩ := h
    clear hd
    generalize S l = s at *
    go_enter Tryd.func14, Tryd.ntmps14
    go_wp2_with fail
    refine (c1.out _).mono ?_
    rintro e w1 ⟨rfl, rfl⟩
    go_wp2
    go_ret2
    exact ⟨rfl, rfl⟩
  · have c1 := Lib.hid (fun W => refDigs_any l hz true hd W)
    have c2 := Lib.hid (fun W => refluhn_any l hz hd W)
    rw [if_pos ⟨by omega, by omega, hd⟩] at h
    simp only [Prod.mk.injEq] at h
    obtain ⟨rfl, rfl⟩ := h
    clear hd
    generalize luhnC l = cc at *
    generalize S l = s at *
    go_enter Tryd.func14, Tryd.ntmps14
    go_wp2_with fail
    refine (c1.out _).mono ?_
    rintro e w1 ⟨rfl, rfl⟩
    go_wp2_with fail
    refine (c2.out _).mono ?_
    rintro e w1 ⟨rfl, rfl⟩
    go_wp2
    go_ret2
    exact ⟨rfl, rfl⟩

set_option maxHeartbeats 4000000 in
theorem refdigit_any (n : Nat) (hn : n ≤ 9) (w : World) :
    Calls Tryd.prog 29 #[.int .i64 (n : Int)] w fun e w' => e = .returned (.string (S [dgt n])) ∧ Below w.heap.size w w' := by
  have hB := (Byt.one w (dgt n)).str
  have hu : u8V (dgt n) = .int .u8 (48 + (n : Int)) := by unfold u8V; rw [dgt_nat n hn]; congr 1
  rw [hu] at hB
  go_enter Tryd.func29, Tryd.ntmps29
  go_wp2
  go_ret
  exact ⟨rfl, (Below.refl _ w).alloc (Nat.le_refl _) _⟩
end Go.Proofs.YtnbjgkhngolhfaaDoor
