/- Merged: Tab05, BA05, BB05, BN05. -/
import Derived.Test.YtfjfpefpdlecbaaGreatDoorShelf
import Derived.Test.YtfjfpefpdlecbaaGreatDoorQ18
import Derived.Test.YtfjfpefpdlecbaaGreatDoorQ22
import Derived.Lib.LaidTab
import Derived.Lib.ConvBytes
import Derived.Test.YtfjfpefpdlecbaaGreatDoorQ12
namespace Go.Proofs.YtfjfpefpdlecbaaGreatDoor

section
open Go.RowKit
abbrev Tab (w : World) : Prop := Env w
theorem Tab.on {w w' : World} (h : Tab w) (hb : Below w.heap.size w w') : Tab w' := Env.after h hb
theorem bytes_below (w : World) (e : TypeId) (s : ByteArray) : Below w.heap.size w (Lib.bytesWorld w e s) :=
  ⟨rfl, rfl, rfl, by rw [Lib.bytesWorld_size]; omega, fun i hi => Lib.bytesWorld_at_old w e s i hi⟩

/-- strconv.Itoa at a number that is not negative. -/
theorem itoa_any (n : Nat) (h : n ≤ 9223372036854775807) (w : World) (hT : Tab w) :
    Calls Tryz.prog 132 #[.int .i64 (n : Int)] w fun e w' => e = .returned (.string (S (Lib.decDigits n))) ∧ Below w.heap.size w w' :=
  (Tryz.strconv_Itoa (n : Int) (by omega) (by omega) w hT.pows).mono fun e w' hh => by
    obtain ⟨he, k, os, rfl⟩ := hh
    refine ⟨?_, Grow_below w k os⟩
    rw [he, Lib.itoa, if_neg (by omega), Int.toNat_natCast]
    rfl
theorem itoa_digit (n : Nat) (h : n ≤ 9) (w : World) :
    Calls Tryz.prog 132 #[.int .i64 (n : Int)] w fun e w' => e = .returned (.string (S [dgt n])) ∧ w' = w := by
  have c := Tryz.strconv_Itoa_small n (by omega) w
  rw [dec_one n (by omega)] at c
  exact c
/-- strings.ReplaceAll of one character by nothing. -/
theorem strike_any (l : List UInt8) (c : UInt8) (hz : l.length ≤ 1000000) (w : World) (hT : Tab w) :
    Calls Tryz.prog 77 #[.string (S l), .string (S [c]), .string (S [])] w fun e w' => e = .returned (.string (S (l.filter fun x => decide (x ≠ c)))) ∧ Below w.heap.size w w' := by
  obtain ⟨m, hm⟩ := hT.most
  have h := Tryz.strings_ReplaceAll (S l) (S [c]) (S []) m w (by rw [S_size]; omega) hm (by rw [S_size]; exact Nat.le_refl _) (by rw [S_size, S_size]; simp; omega)
  rw [show (S l).data.toList = l from rfl, show (S [c]).data.toList = [c] from rfl, show (S []).data.toList = [] from rfl, struck] at h
  exact h
/-- strings.TrimSuffix of an X. -/
theorem trim_any (l : List UInt8) (hz : l.length ≤ 1000000) (w : World) :
    Calls Tryz.prog 130 #[.string (S l), .string ⟨#[88]⟩] w fun e w' => e = .returned (.string (S (Lib.trimSuffix l [88]))) ∧ w' = w :=
  Tryz.strings_TrimSuffix (S l) ⟨#[88]⟩ w (by rw [S_size]; omega)
/-- strings.HasPrefix of three characters. -/
theorem three_any (l : List UInt8) (a b c : UInt8) (h : 3 ≤ l.length) (w : World) :
    Calls Tryz.prog 87 #[.string (S l), .string ⟨#[a, b, c]⟩] w fun e w' => e = .returned (.bool (decide (l.take 3 = [a, b, c]))) ∧ w' = w := by
  have h2 := Tryz.strings_HasPrefix (S l) ⟨#[a, b, c]⟩ w
  rw [show (S l).data.toList = l from rfl, show (⟨#[a, b, c]⟩ : ByteArray).data.toList = [a, b, c] from rfl, begins_three l a b c h] at h2
  exact h2
end

section
open Go.RowKit Go.PlainAid
set_option maxHeartbeats 4000000 in
theorem barvalue_d (b : Int) (d : Nat) (hb : b = 48 + (d : Int)) (hd : d ≤ 9) (w : World) :
    Calls Tryz.prog 131 #[.int .u8 b] w fun e w' => e = .returned (.int .i64 (d : Int)) ∧ w' = w := by
  have t1 : (b == 88) = false := by simp; omega
  have t2 : b - 48 = (d : Int) := by omega
  go_enter Tryz.func131, Tryz.ntmps131
  go_wp2
  go_ret
  exact ⟨congrArg (fun z => Ending.returned (.int .i64 z)) (show (48 : Int) + (d : Int) - 48 = (d : Int) by omega), rfl⟩

set_option maxHeartbeats 4000000 in
theorem barvalue_x (w : World) :
    Calls Tryz.prog 131 #[.int .u8 88] w fun e w' => e = .returned (.int .i64 10) ∧ w' = w := by
  go_enter Tryz.func131, Tryz.ntmps131
  go_wp2
  go_ret
  exact ⟨rfl, rfl⟩

set_option maxHeartbeats 4000000 in
theorem barcomp_any (a : Nat) (ha : a ≤ 1000000000) (w : World) :
    Calls Tryz.prog 133 #[.int .i64 (a : Int)] w fun e w' => e = .returned (.int .i64 (comp a : Nat)) ∧ w' = w := by
  obtain ⟨m1, m2, m3, m4, m5⟩ := comp_form a ha
  have hc := comp_le a
  generalize comp a = cc at *
  generalize a % 10 = q at *
  go_enter Tryz.func133, Tryz.ntmps133
  go_wp2
  go_ret
  exact ⟨rfl, rfl⟩

set_option maxHeartbeats 8000000 in
theorem barnum_any (l : List UInt8) (hz : l.length ≤ 1000000) (b : Bool) (hb : l.all dgB5 = b) (w : World) :
    Calls Tryz.prog 86 #[.string (S l)] w fun e w' => e = .returned (.bool b) ∧ w' = w := by
  have hbt := get_bt (S l)
  obtain ⟨n, hn⟩ : ∃ n, l.length = n := ⟨_, rfl⟩
  have hsz : (S l).size = n := by rw [S_size, hn]
  obtain ⟨j, hj, hg, hbad⟩ : ∃ j, j ≤ n ∧ (∀ i, i < j → dgB5 (l.getD i 0) = true) ∧ (j < n → dgB5 (l.getD j 0) = false) := by
    rcases first_bad (fun i => dgB5 (l.getD i 0)) n with h | ⟨j, hj, h1, h2⟩
    · exact ⟨n, Nat.le_refl _, h, fun h => by omega⟩
    · exact ⟨j, by omega, h1, fun _ => h2⟩
  have hbb : b = decide (j = n) := by
    rw [← hb]
    by_cases h : j = n
    · rw [decide_eq_true h, all_getD5]
      intro i hi
      exact hg i (by omega)
    · rw [decide_eq_false h]
      cases ha : l.all dgB5
      · rfl
      · have := (all_getD5 l dgB5).1 ha j (by omega)
        rw [hbad (by omega)] at this
        cases this
  have HG := Lib.hid hg
  have HB := Lib.hid hbad
  have HBB := Lib.hid hbb
  have hbs := fun i => bt_S l i
  have HBS := Lib.hid hbs
  rw [hn] at hz
  clear hg hbad hbb hbs hn hb
  generalize S l = s at *
  go_enter Tryz.func86, Tryz.ntmps86
  go_wp2
  go_loopw [6] (fun i wr => ∃ k : Nat, k ≤ j ∧ i = .int .i64 (k : Int) ∧ wr = w) (fun i _ => j - (intOf i).toNat)
  case atStart => exact ⟨0, Nat.zero_le _, rfl, rfl⟩
  case round =>
    obtain ⟨k, hk, rfl, rfl⟩ := hrel
    by_cases hkn : k < n
    · have hki : (k : Int) < (n : Int) := by omega
      have hbk := HBS.out k
      by_cases hlt : k < j
      · have hd := (dgB5_iff _).1 (HG.out k hlt)
        have t1 : decide (bt s k < 48) = false := decide_eq_false (by omega)
        have t2 : decide (57 < bt s k) = false := decide_eq_false (by omega)
        clear hbk hd
        go_wp2
        go_roundw
        case rel => exact ⟨k + 1, by omega, by go_num, trivial⟩
        case measure => simp [intOf]; omega
      · obtain rfl : k = j := by omega
        have hd := HB.out hkn
        obtain rfl : b = false := by rw [HBB.out]; exact decide_eq_false (by omega)
        by_cases h0 : bt s k < 48
        · have t1 : decide (bt s k < 48) = true := decide_eq_true h0
          clear hbk hd
          go_wp2
          go_ret
          exact ⟨rfl, rfl⟩
        · have t1 : decide (bt s k < 48) = false := decide_eq_false h0
          have t2 : decide (57 < bt s k) = true := by
            refine decide_eq_true ?_
            rcases Int.lt_or_le 57 (bt s k) with h | h
            · exact h
            · have : dgB5 (l.getD k 0) = true := (dgB5_iff _).2 (by omega)
              rw [this] at hd
              cases hd
          clear hbk hd
          go_wp2
          go_ret
          exact ⟨rfl, rfl⟩
    · obtain rfl : k = n := by omega
      obtain rfl : j = k := by omega
      obtain rfl : b = true := by rw [HBB.out]; exact decide_eq_true rfl
      go_wp2
      go_ret
      exact ⟨rfl, rfl⟩
end

section
open Go.RowKit Go.PlainAid
set_option maxHeartbeats 8000000 in
theorem baralt_any (l : List UInt8) (hz : l.length ≤ 1000000) (hd : l.all dgB5 = true) (w : World) :
    Calls Tryz.prog 88 #[.string (S l)] w fun e w' => e = .returned (.int .i64 (altS l : Nat)) ∧ w' = w := by
  have hbt := get_bt (S l)
  obtain ⟨n, hn⟩ : ∃ n, l.length = n := ⟨_, rfl⟩
  have hsz : (S l).size = n := by rw [S_size, hn]
  have hdg := (all_getD5 l dgB5).1 hd
  have HD := Lib.hid (fun i (hi : i < n) => dv_le l i (hdg i (by omega)))
  have HBS := Lib.hid (fun i => bt_S l i)
  have HC : RowKit.Hid (altS l = addN (fun i => if i % 2 = 1 then 3 * dv l i else dv l i) n) := by unfold RowKit.Hid altS; rw [hn]
  have HSum := Lib.hid (fun k (hk : k ≤ n) => addN_le (fun i => if i % 2 = 1 then 3 * dv l i else dv l i) 27 k (fun i hi => by have := (dv_le l i (hdg i (by omega))).1; split <;> omega))
  rw [hn] at hz
  clear hdg hd hn
  generalize altS l = cc at *
  generalize S l = s at *
  go_enter Tryz.func88, Tryz.ntmps88
  go_wp2
  go_loopw [3, 8] (fun su i wr => ∃ k : Nat, k ≤ n ∧ i = .int .i64 (k : Int) ∧ su = .int .i64 ((addN (fun i => if i % 2 = 1 then 3 * dv l i else dv l i) k : Nat) : Int) ∧ wr = w) (fun _ i _ => n - (intOf i).toNat)
  case atStart => exact ⟨0, Nat.zero_le _, rfl, rfl, rfl⟩
  case round =>
    obtain ⟨k, hk, rfl, rfl, rfl⟩ := hrel
    have hsb : addN (fun i => if i % 2 = 1 then 3 * dv l i else dv l i) k ≤ 27000000 := by have := HSum.out k hk; omega
    by_cases hkn : k < n
    · have HV : RowKit.Hid (addN (fun i => if i % 2 = 1 then 3 * dv l i else dv l i) (k + 1) = addN (fun i => if i % 2 = 1 then 3 * dv l i else dv l i) k + (if k % 2 = 1 then 3 * dv l k else dv l k)) := rfl
      obtain ⟨hd9, hdb⟩ := HD.out k hkn
      have hv := HBS.out k
      rw [hdb] at hv
      have hki : (k : Int) < (n : Int) := by omega
      have cV := Lib.hid (barvalue_d (48 + ((dv l k : Nat) : Int)) (dv l k) rfl hd9 wr)
      have hv : bt s k = 48 + ((dv l k : Nat) : Int) := by rw [hv]; omega
      have r1 : Int.tmod (k : Int) 2 = ((k % 2 : Nat) : Int) := by rw [Int.tmod_eq_emod_of_nonneg (by omega)]; omega
      have r2 : (k : Int) % 2 = ((k % 2 : Nat) : Int) := by omega
      have ho : k % 2 ≤ 1 := by omega
      generalize addN (fun i => if i % 2 = 1 then 3 * dv l i else dv l i) k = sx at *
      generalize dv l k = d at *
      generalize k % 2 = o at *
      by_cases h1 : o = 1
      · subst h1
        have HV2 : RowKit.Hid (addN (fun i => if i % 2 = 1 then 3 * dv l i else dv l i) (k + 1) = sx + 3 * d) := HV.out.trans (by rw [if_pos rfl])
        clear HV
        go_wp2_with fail
        refine (cV.out).mono ?_
        rintro e w1 ⟨rfl, rfl⟩
        go_wp2
        go_roundw
        case rel => exact ⟨k + 1, by omega, by go_num, by rw [HV2.out]; go_num, trivial⟩
        case measure => simp [intOf]; omega
      · have HV2 : RowKit.Hid (addN (fun i => if i % 2 = 1 then 3 * dv l i else dv l i) (k + 1) = sx + d) := HV.out.trans (by rw [if_neg h1])
        have t1 : ((o : Int) == 1) = false := by simp; omega
        clear HV
        go_wp2_with fail
        refine (cV.out).mono ?_
        rintro e w1 ⟨rfl, rfl⟩
        go_wp2
        go_roundw
        case rel => exact ⟨k + 1, by omega, by go_num, by rw [HV2.out]; go_num, trivial⟩
        case measure => simp [intOf]; omega
    · obtain rfl : k = n := by omega
      rw [← HC.out]
      go_wp2
      go_ret
      exact ⟨rfl, rfl⟩

set_option maxHeartbeats 8000000 in
theorem barwei_any (l : List UInt8) (hz : l.length ≤ 10000) (hd : endedB l = true) (w : World) :
    Calls Tryz.prog 84 #[.string (S l)] w fun e w' => e = .returned (.int .i64 (wS l : Nat)) ∧ w' = w := by
  have hbt := get_bt (S l)
  obtain ⟨n, hn⟩ : ∃ n, l.length = n := ⟨_, rfl⟩
  have hsz : (S l).size = n := by rw [S_size, hn]
  have hwd : ∀ i, i < n → wd (l.getD i 0) ≤ 10 ∧ ((l.getD i 0 = 88 ∧ wd (l.getD i 0) = 10) ∨ (l.getD i 0 ≠ 88 ∧ (l.getD i 0).toNat = 48 + wd (l.getD i 0) ∧ wd (l.getD i 0) ≤ 9)) := by
    intro i hi
    unfold wd
    by_cases h88 : l.getD i 0 = 88
    · rw [if_pos h88]
      exact ⟨Nat.le_refl _, .inl ⟨h88, rfl⟩⟩
    · rw [if_neg h88]
      rcases ended_each l hd i (by omega) with h | h
      · rw [dgB5_iff] at h
        exact ⟨by omega, .inr ⟨h88, by omega, by omega⟩⟩
      · exact absurd h h88
  have HD := Lib.hid hwd
  have HBS := Lib.hid (fun i => bt_S l i)
  have HC : RowKit.Hid (wS l = addN (fun i => wd (l.getD i 0) * (n - i)) n) := by unfold RowKit.Hid wS; rw [hn]
  have HSum := Lib.hid (fun k (hk : k ≤ n) => addN_le (fun i => wd (l.getD i 0) * (n - i)) 100000 k (fun i hi => Nat.le_trans (Nat.mul_le_mul (hwd i (by omega)).1 (Nat.sub_le n i)) (by omega)))
  rw [hn] at hz
  clear hwd hd hn
  generalize wS l = cc at *
  generalize S l = s at *
  go_enter Tryz.func84, Tryz.ntmps84
  go_wp2
  go_loopw [3, 7] (fun su i wr => ∃ k : Nat, k ≤ n ∧ i = .int .i64 (k : Int) ∧ su = .int .i64 ((addN (fun i => wd (l.getD i 0) * (n - i)) k : Nat) : Int) ∧ wr = w) (fun _ i _ => n - (intOf i).toNat)
  case atStart => exact ⟨0, Nat.zero_le _, rfl, rfl, rfl⟩
  case round =>
    obtain ⟨k, hk, rfl, rfl, rfl⟩ := hrel
    have hsb : addN (fun i => wd (l.getD i 0) * (n - i)) k ≤ 1000000000 := by have := HSum.out k hk; omega
    by_cases hkn : k < n
    · have HV : RowKit.Hid (addN (fun i => wd (l.getD i 0) * (n - i)) (k + 1) = addN (fun i => wd (l.getD i 0) * (n - i)) k + wd (l.getD k 0) * (n - k)) := rfl
      obtain ⟨hd9, hcase⟩ := HD.out k hkn
      have hv0 := HBS.out k
      have hki : (k : Int) < (n : Int) := by omega
      have e1 : (n : Int) - (k : Int) = ((n - k : Nat) : Int) := by omega
      have hmul : wd (l.getD k 0) * (n - k) ≤ 100000 := Nat.le_trans (Nat.mul_le_mul hd9 (Nat.sub_le n k)) (by omega)
      have hc : ((n - k : Nat) : Int) * ((wd (l.getD k 0) : Nat) : Int) = ((wd (l.getD k 0) * (n - k) : Nat) : Int) := by rw [Int.mul_comm]; exact (Int.natCast_mul _ _).symm
      generalize addN (fun i => wd (l.getD i 0) * (n - i)) k = sx at *
      rcases hcase with ⟨h88, hw⟩ | ⟨h88, hw, hw9⟩
      · have hv : bt s k = 88 := by rw [hv0, h88]; rfl
        clear hv0
        rw [hw] at hc hmul HV
        have HV2 : RowKit.Hid (addN (fun i => wd (l.getD i 0) * (n - i)) (k + 1) = sx + 10 * (n - k)) := HV.out
        clear h88 hw HV hd9
        generalize 10 * (n - k) = pr at *
        generalize n - k = dd at *
        have cX := Lib.hid (barvalue_x wr)
        go_wp2_with fail
        refine (cX.out).mono ?_
        rintro e w1 ⟨rfl, rfl⟩
        go_wp2
        go_roundw
        case rel => exact ⟨k + 1, by omega, by go_num, by rw [HV2.out]; go_num, trivial⟩
        case measure => simp [intOf]; omega
      · rw [hw] at hv0
        have t1 : (bt s k != 88) = true := by
          have : (l.getD k 0).toNat ≠ 88 := fun h => h88 (UInt8.toNat_inj.1 h)
          simp; omega
        have t2 : (bt s k == 88) = false := by simpa using t1
        have hv : bt s k = 48 + ((wd (l.getD k 0) : Nat) : Int) := by rw [hv0]; omega
        rw [hv] at t1 t2
        have cV := Lib.hid (barvalue_d (48 + ((wd (l.getD k 0) : Nat) : Int)) (wd (l.getD k 0)) rfl hw9 wr)
        clear h88 hw hv0
        generalize wd (l.getD k 0) * (n - k) = pr at *
        generalize wd (l.getD k 0) = x at *
        generalize n - k = dd at *
        go_wp2_with fail
        refine (cV.out).mono ?_
        rintro e w1 ⟨rfl, rfl⟩
        go_wp2
        go_roundw
        case rel => exact ⟨k + 1, by omega, by go_num, by rw [HV.out]; go_num, trivial⟩
        case measure => simp [intOf]; omega
    · obtain rfl : k = n := by omega
      rw [← HC.out]
      go_wp2
      go_ret
      exact ⟨rfl, rfl⟩
end

section
open Go.RowKit Go.PlainAid
theorem trim_length (l : List UInt8) : (Lib.trimSuffix l [88]).length ≤ l.length := by
  unfold Lib.trimSuffix
  split
  · rw [List.length_take]; omega
  · exact Nat.le_refl _

set_option maxHeartbeats 4000000 in
theorem barnumd_any (l : List UInt8) (hz : l.length ≤ 1000000) (h1 : 1 ≤ l.length) (b : Bool) (hb : endedB l = b) (w : World) :
    Calls Tryz.prog 83 #[.string (S l)] w fun e w' => e = .returned (.bool b) ∧ w' = w := by
  have hl := trim_length l
  have c1 := Lib.hid (trim_any l hz w)
  have c2 := Lib.hid (barnum_any (Lib.trimSuffix l [88]) (by omega) b ((trim_ended l h1).trans hb) w)
  clear hb
  generalize S (Lib.trimSuffix l [88]) = t at *
  generalize S l = s at *
  go_enter Tryz.func83, Tryz.ntmps83
  go_wp2_with fail
  refine (c1.out).mono ?_
  rintro e w1 ⟨rfl, rfl⟩
  go_wp2_with fail
  refine (c2.out).mono ?_
  rintro e w1 ⟨rfl, rfl⟩
  go_wp2
  go_ret
  exact ⟨rfl, rfl⟩

/-- A short number, lengthened. -/
def longer (t : List UInt8) : List UInt8 := [57, 55, 56] ++ t.take 9 ++ [dgt (comp (altS ([57, 55, 56] ++ t.take 9)))]
set_option maxHeartbeats 8000000 in
theorem barlong_any (t : List UInt8) (h10 : t.length = 10) (he : endedB t = true) (w : World) :
    Calls Tryz.prog 85 #[.string (S t)] w fun e w' => e = .returned (.string (S (longer t))) ∧ w' = w := by
  have hu : (S t).size = 10 := by rw [S_size, h10]
  obtain ⟨p, hp⟩ : ∃ p, ([57, 55, 56] ++ t.take 9 : List UInt8) = p := ⟨_, rfl⟩
  have f1 : (S t).extract 0 9 = S (t.take 9) := by rw [S_extract]; rfl
  have f2 : (⟨#[57, 55, 56]⟩ : ByteArray) ++ S (t.take 9) = S p := by rw [show (⟨#[57, 55, 56]⟩ : ByteArray) = S [57, 55, 56] from rfl, S_append, hp]
  have z1 : (S (t.take 9)).size = 9 := by rw [S_size, List.length_take]; omega
  have hp12 : p.length = 12 := by rw [← hp, List.length_append, List.length_take]; simp; omega
  have z2 : (S p).size = 12 := by rw [S_size, hp12]
  have hpd : p.all dgB5 = true := by
    rw [← hp, List.all_append, Bool.and_eq_true]
    refine ⟨by decide, ?_⟩
    obtain ⟨_, h2, _⟩ := ended_at t he
    rw [all_getD5]
    intro i hi
    rw [List.length_take] at hi
    rw [getD_take _ _ _ (by omega)]
    exact h2 i (by omega)
  have c1 := Lib.hid (baralt_any p (by omega) hpd w)
  have c2 := Lib.hid (barcomp_any (altS p) (by have := altS_le p (by omega); omega) w)
  have c3 := Lib.hid (itoa_digit (comp (altS p)) (comp_le _) w)
  have F3 : RowKit.Hid (S p ++ S [dgt (comp (altS p))] = S (longer t)) := by unfold RowKit.Hid longer; rw [hp]; exact S_append _ _
  have z3 : (S [dgt (comp (altS p))]).size = 1 := rfl
  clear hpd he hp
  generalize S (longer t) = res at *
  generalize S [dgt (comp (altS p))] = sd at *
  generalize comp (altS p) = cc at *
  generalize altS p = a at *
  generalize S p = sp at *
  generalize S (t.take 9) = tk at *
  generalize S t = u at *
  go_enter Tryz.func85, Tryz.ntmps85
  go_wp2_with fail
  refine (c1.out).mono ?_
  rintro e w1 ⟨rfl, rfl⟩
  go_wp2_with fail
  refine (c2.out).mono ?_
  rintro e w1 ⟨rfl, rfl⟩
  go_wp2_with fail
  refine (c3.out).mono ?_
  rintro e w1 ⟨rfl, rfl⟩
  go_wp2
  go_ret
  rw [← F3.out]
  exact ⟨rfl, rfl⟩
end

end Go.Proofs.YtfjfpefpdlecbaaGreatDoor
