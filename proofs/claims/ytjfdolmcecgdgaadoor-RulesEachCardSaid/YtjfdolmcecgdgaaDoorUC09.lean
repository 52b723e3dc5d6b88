/- Package rules: isCodes, isChoice. libraryref09: Codes, Within. -/
import Derived.Test.YtjfdolmcecgdgaaDoorUB09
namespace Go.Proofs.YtjfdolmcecgdgaaDoor
open Go.RowKit Go.PlainAid

theorem codeAt_zero (l : List UInt8) : codeAt l 0 = (digB (l.getD 0 0) || letB9 (l.getD 0 0)) := by
  unfold codeAt
  rw [decide_eq_true rfl, Bool.true_or, Bool.and_true]
  rfl
theorem codeAt_succ (l : List UInt8) (m : Nat) : codeAt l (m + 1) = ((digB (l.getD (m + 1) 0) || letB9 (l.getD (m + 1) 0)) && !(decide (((l.getD (m + 1) 0).toNat : Int) ≤ ((l.getD m 0).toNat : Int)))) := by
  unfold codeAt
  rw [decide_eq_false (Nat.succ_ne_zero m), Bool.false_or, Nat.add_sub_cancel]
  congr 1
  rw [← decide_not, decide_eq_decide]
  omega

set_option maxHeartbeats 16000000 in
theorem uCodes_any (l : List UInt8) (hz : l.length ≤ 1000000) (b : Bool) (hb : codesB l = b) (w : World) :
    Calls Tryd.prog 37 #[.string (S l)] w fun e w' => e = .returned (.bool b) ∧ Below w.heap.size w w' := by
  have hbt := get_bt (S l)
  obtain ⟨n, hn⟩ : ∃ n, l.length = n := ⟨_, rfl⟩
  have hsz : (S l).size = n := by rw [S_size, hn]
  obtain ⟨j, hj, hg, hbad⟩ : ∃ j, j ≤ n ∧ (∀ i, i < j → codeAt l i = true) ∧ (j < n → codeAt l j = false) := by
    rcases first_bad (codeAt l) n with h | ⟨j, hj, h1, h2⟩
    · exact ⟨n, Nat.le_refl _, h, fun h => by omega⟩
    · exact ⟨j, by omega, h1, fun _ => h2⟩
  have hbj : j < n → b = false := fun h => by rw [← hb]; exact range_all_false _ _ j (by omega) (hbad h)
  have hbs : j = n → b = true := fun h => by rw [← hb]; exact range_all_true _ _ (fun i hi => hg i (by omega))
  have HG := Lib.hid hg
  have HB := Lib.hid hbad
  have HBJ := Lib.hid hbj
  have HBS2 := Lib.hid hbs
  have HBS := Lib.hid (fun i => bt_S l i)
  have cD := Lib.hid (fun x r (hr : digB x = r) W => uDigit_any x r hr W)
  have cL := Lib.hid (fun x r (hr : letB9 x = r) W => uLetter_any x r hr W)
  have HC0 := Lib.hid (codeAt_zero l)
  have HCS := Lib.hid (codeAt_succ l)
  have HRef := Lib.hid (Below.refl w.heap.size w)
  rw [hn] at hz
  clear hg hbad hbj hbs hn hb
  generalize S l = s at *
  go_enter Tryd.func37, Tryd.ntmps37
  go_wp2
  go_loopw [6] (fun i wr => ∃ k : Nat, k ≤ j ∧ i = .int .i64 (k : Int) ∧ Below w.heap.size w wr) (fun i _ => j - (intOf i).toNat)
  case atStart => exact ⟨0, Nat.zero_le _, rfl, HRef.out⟩
  case round =>
    obtain ⟨k, hk, rfl, hbw⟩ := hrel
    by_cases hkn : k < n
    · have hki : (k : Int) < (n : Int) := by omega
      have hk0 : (0 : Int) ≤ (k : Int) := by omega
      obtain ⟨cb, hcb⟩ : ∃ cb, codeAt l k = cb := ⟨_, rfl⟩
      have HBw := Lib.hid hbw
      clear hbw
      go_upto_region 4 with fail
      go_cut [34] from 9 to 34 (fun s34 wy => s34 = .bool (!cb) ∧ Below w.heap.size w wy)
      case first =>
        obtain ⟨d, hd⟩ : ∃ d, digB (l.getD k 0) = d := ⟨_, rfl⟩
        obtain ⟨t, ht⟩ : ∃ t, letB9 (l.getD k 0) = t := ⟨_, rfl⟩
        have hc1 := Lib.hid (fun W => cD.out _ d hd W)
        have hc2 := Lib.hid (fun W => cL.out _ t ht W)
        rw [← HBS.out k] at hc1 hc2
        rcases Nat.eq_zero_or_pos k with h0 | h0
        · subst h0
          have e0 : (d || t) = cb := by rw [← hcb, HC0.out, hd, ht]
          have d0 : decide ((0 : Int) < ((0 : Nat) : Int)) = false := rfl
          have d1 : ((0 : Nat) : Int) = 0 := rfl
          clear hd ht hcb
          cases d <;> cases t
          all_goals
            subst e0
            go_quiet (first | (go_at_call 41; exact Calls.quiet_of_same (hc1.out _)) | (go_at_call 42; exact Calls.quiet_of_same (hc2.out _)))
            all_goals (go_wp2_with fail; go_meet; exact ⟨rfl, HBw.out.trans ((below_drawn9 _ _ _ (Below.refl _ _)).mono HBw.out.size)⟩)
        · obtain ⟨m, rfl⟩ : ∃ m, k = m + 1 := ⟨k - 1, by omega⟩
          obtain ⟨p, hp⟩ : ∃ p, decide (bt s (m + 1) ≤ bt s m) = p := ⟨_, rfl⟩
          have e0 : ((d || t) && !p) = cb := by rw [← hcb, HCS.out m, hd, ht, ← hp, HBS.out (m + 1), HBS.out m]
          have i3 : (0 : Int) ≤ (m : Int) := by omega
          have i4 : (m : Int) < (n : Int) := by omega
          have i5 : (0 : Int) < (m : Int) + 1 := by omega
          have i6 : (m : Int) + 1 < (n : Int) := by omega
          have i7 : m < n := by omega
          clear hd ht hcb
          cases d <;> cases t <;> cases p
          all_goals
            subst e0
            go_quiet (first | (go_at_call 41; exact Calls.quiet_of_same (hc1.out _)) | (go_at_call 42; exact Calls.quiet_of_same (hc2.out _)))
            all_goals (go_wp2_with fail; go_meet; exact ⟨rfl, HBw.out.trans ((below_drawn9 _ _ _ (Below.refl _ _)).mono HBw.out.size)⟩)
      case rest =>
        obtain ⟨rfl, hsc⟩ := hcut
        by_cases hlt : k < j
        · obtain rfl : cb = true := by rw [← hcb]; exact HG.out k hlt
          go_wp2
          go_roundw
          case rel => exact ⟨k + 1, by omega, by go_num, hsc⟩
          case measure => simp [intOf]; omega
        · obtain rfl : k = j := by omega
          obtain rfl : cb = false := by rw [← hcb]; exact HB.out hkn
          obtain rfl : b = false := HBJ.out hkn
          go_wp2
          go_ret
          exact ⟨rfl, hsc⟩
    · obtain rfl : k = n := by omega
      obtain rfl : b = true := HBS2.out (by omega)
      go_wp2
      go_ret
      exact ⟨rfl, hbw⟩

set_option maxHeartbeats 16000000 in
theorem refCodes_any (l : List UInt8) (hz : l.length ≤ 1000000) (b : Bool) (hb : codesB l = b) (w : World) :
    Calls Tryd.prog 28 #[.string (S l)] w fun e w' => e = .returned (.bool b) ∧ Below w.heap.size w w' := by
  have hbt := get_bt (S l)
  obtain ⟨n, hn⟩ : ∃ n, l.length = n := ⟨_, rfl⟩
  have hsz : (S l).size = n := by rw [S_size, hn]
  obtain ⟨j, hj, hg, hbad⟩ : ∃ j, j ≤ n ∧ (∀ i, i < j → codeAt l i = true) ∧ (j < n → codeAt l j = false) := by
    rcases first_bad (codeAt l) n with h | ⟨j, hj, h1, h2⟩
    · exact ⟨n, Nat.le_refl _, h, fun h => by omega⟩
    · exact ⟨j, by omega, h1, fun _ => h2⟩
  have hbj : j < n → b = false := fun h => by rw [← hb]; exact range_all_false _ _ j (by omega) (hbad h)
  have hbs : j = n → b = true := fun h => by rw [← hb]; exact range_all_true _ _ (fun i hi => hg i (by omega))
  have HG := Lib.hid hg
  have HB := Lib.hid hbad
  have HBJ := Lib.hid hbj
  have HBS2 := Lib.hid hbs
  have HBS := Lib.hid (fun i => bt_S l i)
  have HC0 := Lib.hid (codeAt_zero l)
  have HCS := Lib.hid (codeAt_succ l)
  have HRef := Lib.hid (Below.refl w.heap.size w)
  rw [hn] at hz
  clear hg hbad hbj hbs hn hb
  generalize S l = s at *
  go_enter Tryd.func28, Tryd.ntmps28
  go_wp2
  go_loopw [3] (fun i wr => ∃ k : Nat, k ≤ j ∧ i = .int .i64 (k : Int) ∧ Below w.heap.size w wr) (fun i _ => j - (intOf i).toNat)
  case atStart => exact ⟨0, Nat.zero_le _, rfl, HRef.out⟩
  case round =>
    obtain ⟨k, hk, rfl, hbw⟩ := hrel
    by_cases hkn : k < n
    · have hki : (k : Int) < (n : Int) := by omega
      have hk0 : (0 : Int) ≤ (k : Int) := by omega
      obtain ⟨cb, hcb⟩ : ∃ cb, codeAt l k = cb := ⟨_, rfl⟩
      have HBw := Lib.hid hbw
      clear hbw
      go_upto_region 4 with fail
      go_cut [46] from 10 to 46 (fun s46 wy => s46 = .bool (!cb) ∧ Below w.heap.size w wy)
      case first =>
        obtain ⟨p1, hp1⟩ : ∃ p, decide (48 ≤ bt s k) = p := ⟨_, rfl⟩
        obtain ⟨p2, hp2⟩ : ∃ p, decide (bt s k ≤ 57) = p := ⟨_, rfl⟩
        obtain ⟨p3, hp3⟩ : ∃ p, decide (97 ≤ bt s k) = p := ⟨_, rfl⟩
        obtain ⟨p4, hp4⟩ : ∃ p, decide (bt s k ≤ 122) = p := ⟨_, rfl⟩
        have hdd : digB (l.getD k 0) = (p1 && p2) := by
          unfold digB
          rw [← hp1, ← hp2, HBS.out k]
          congr 1
          · rw [decide_eq_decide]; omega
          · rw [decide_eq_decide]; omega
        have hll : letB9 (l.getD k 0) = (p3 && p4) := by
          unfold letB9
          rw [← hp3, ← hp4, HBS.out k]
          congr 1
          · rw [decide_eq_decide]; omega
          · rw [decide_eq_decide]; omega
        rcases Nat.eq_zero_or_pos k with h0 | h0
        · subst h0
          have e0 : ((p1 && p2) || (p3 && p4)) = cb := by rw [← hcb, HC0.out, hdd, hll]
          have d0 : decide ((0 : Int) < ((0 : Nat) : Int)) = false := rfl
          have d1 : ((0 : Nat) : Int) = 0 := rfl
          clear hdd hll hcb
          cases p1 <;> cases p2 <;> cases p3 <;> cases p4
          all_goals
            subst e0
            go_quiet (fail)
            all_goals (go_wp2_with fail; go_meet; exact ⟨rfl, HBw.out.trans ((below_drawn9 _ _ _ (Below.refl _ _)).mono HBw.out.size)⟩)
        · obtain ⟨m, rfl⟩ : ∃ m, k = m + 1 := ⟨k - 1, by omega⟩
          obtain ⟨p, hp⟩ : ∃ p, decide (bt s (m + 1) ≤ bt s m) = p := ⟨_, rfl⟩
          have e0 : (((p1 && p2) || (p3 && p4)) && !p) = cb := by rw [← hcb, HCS.out m, hdd, hll, ← hp, HBS.out (m + 1), HBS.out m]
          have i3 : (0 : Int) ≤ (m : Int) := by omega
          have i4 : (m : Int) < (n : Int) := by omega
          have i5 : (0 : Int) < (m : Int) + 1 := by omega
          have i6 : (m : Int) + 1 < (n : Int) := by omega
          have i7 : m < n := by omega
          clear hdd hll hcb
          cases p1 <;> cases p2 <;> cases p3 <;> cases p4 <;> cases p
          all_goals
            subst e0
            go_quiet (fail)
            all_goals (go_wp2_with fail; go_meet; exact ⟨rfl, HBw.out.trans ((below_drawn9 _ _ _ (Below.refl _ _)).mono HBw.out.size)⟩)
      case rest =>
        obtain ⟨rfl, hsc⟩ := hcut
        by_cases hlt : k < j
        · obtain rfl : cb = true := by rw [← hcb]; exact HG.out k hlt
          go_wp2
          go_roundw
          case rel => exact ⟨k + 1, by omega, by go_num, hsc⟩
          case measure => simp [intOf]; omega
        · obtain rfl : k = j := by omega
          obtain rfl : cb = false := by rw [← hcb]; exact HB.out hkn
          obtain rfl : b = false := HBJ.out hkn
          go_wp2
          go_ret
          exact ⟨rfl, hsc⟩
    · obtain rfl : k = n := by omega
      obtain rfl : b = true := HBS2.out (by omega)
      go_wp2
      go_ret
      exact ⟨rfl, hbw⟩

set_option maxHeartbeats 8000000 in
theorem refWithin_any (all l : List UInt8) (hz : l.length ≤ 1000000) (hz2 : all.length ≤ 1000000) (b : Bool) (hb : withinB all l = b) (w : World) :
    Calls Tryd.prog 29 #[.string (S all), .string (S l)] w fun e w' => e = .returned (.bool b) ∧ w' = w := by
  have hbt := get_bt (S l)
  obtain ⟨n, hn⟩ : ∃ n, l.length = n := ⟨_, rfl⟩
  have hsz : (S l).size = n := by rw [S_size, hn]
  obtain ⟨j, hj, hg, hbad⟩ : ∃ j, j ≤ n ∧ (∀ i, i < j → hasB all (l.getD i 0) = true) ∧ (j < n → hasB all (l.getD j 0) = false) := by
    rcases first_bad (fun i => hasB all (l.getD i 0)) n with h | ⟨j, hj, h1, h2⟩
    · exact ⟨n, Nat.le_refl _, h, fun h => by omega⟩
    · exact ⟨j, by omega, h1, fun _ => h2⟩
  have hbj : j < n → b = false := fun h => by rw [← hb]; exact range_all_false _ _ j (by omega) (hbad h)
  have hbs : j = n → b = true := fun h => by rw [← hb]; exact range_all_true _ _ (fun i hi => hg i (by omega))
  have HG := Lib.hid hg
  have HB := Lib.hid hbad
  have HBJ := Lib.hid hbj
  have HBS2 := Lib.hid hbs
  have HBS := Lib.hid (fun i => bt_S l i)
  have cH := Lib.hid (fun x r (hr : hasB all x = r) W => refHas_any all x hz2 r hr W)
  rw [hn] at hz
  clear hg hbad hbj hbs hn hb hz2
  generalize S l = s at *
  generalize S all = sa at *
  go_enter Tryd.func29, Tryd.ntmps29
  go_wp2
  go_loopw [5] (fun i wr => ∃ k : Nat, k ≤ j ∧ i = .int .i64 (k : Int) ∧ w = wr) (fun i _ => j - (intOf i).toNat)
  case atStart => exact ⟨0, Nat.zero_le _, rfl, rfl⟩
  case round =>
    obtain ⟨k, hk, rfl, rfl⟩ := hrel
    by_cases hkn : k < n
    · have hki : (k : Int) < (n : Int) := by omega
      have hk0 : (0 : Int) ≤ (k : Int) := by omega
      have hbk := HBS.out k
      by_cases hlt : k < j
      · have hc := cH.out _ true (HG.out k hlt) w
        rw [← hbk] at hc
        clear hbk
        go_wp2_with fail
        refine hc.mono ?_
        rintro e w1 ⟨rfl, rfl⟩
        go_wp2
        go_roundw
        case rel => exact ⟨k + 1, by omega, by go_num, trivial⟩
        case measure => simp [intOf]; omega
      · obtain rfl : k = j := by omega
        have hc := cH.out _ false (HB.out hkn) w
        rw [← hbk] at hc
        clear hbk
        obtain rfl : b = false := HBJ.out hkn
        go_wp2_with fail
        refine hc.mono ?_
        rintro e w1 ⟨rfl, rfl⟩
        go_wp2
        go_ret
        exact ⟨rfl, rfl⟩
    · obtain rfl : k = n := by omega
      obtain rfl : b = true := HBS2.out (by omega)
      go_wp2
      go_ret
      exact ⟨rfl, rfl⟩

set_option maxHeartbeats 8000000 in
theorem uChoice_any (all l : List UInt8) (hz : l.length ≤ 1000000) (b : Bool) (hb : choiceB l all = b) (w : World) :
    Calls Tryd.prog 38 #[.string (S l), .string (S all)] w fun e w' => e = .returned (.bool b) ∧ Below w.heap.size w w' := by
  have hbt := get_bt (S l)
  obtain ⟨n, hn⟩ : ∃ n, l.length = n := ⟨_, rfl⟩
  have hsz : (S l).size = n := by rw [S_size, hn]
  unfold choiceB at hb
  obtain ⟨j, hj, hg, hbad⟩ : ∃ j, j ≤ n ∧ (∀ i, i < j → hasB all (l.getD i 0) = true) ∧ (j < n → hasB all (l.getD j 0) = false) := by
    rcases first_bad (fun i => hasB all (l.getD i 0)) n with h | ⟨j, hj, h1, h2⟩
    · exact ⟨n, Nat.le_refl _, h, fun h => by omega⟩
    · exact ⟨j, by omega, h1, fun _ => h2⟩
  have hbj : j < n → b = false := fun h => by rw [← hb, show withinB all l = false from range_all_false _ _ j (by omega) (hbad h), Bool.false_and]
  have hbs : j = n → codesB l = b := fun h => by rw [← hb, show withinB all l = true from range_all_true _ _ (fun i hi => hg i (by omega)), Bool.true_and]
  have HG := Lib.hid hg
  have HB := Lib.hid hbad
  have HBJ := Lib.hid hbj
  have HBS := Lib.hid (fun i => bt_S l i)
  have cH := Lib.hid (fun x r (hr : hasB all x = r) W => uContains_any all x r hr W)
  have cC := Lib.hid (fun h W => uCodes_any l hz b (hbs h) W)
  rw [hn] at hz
  clear hg hbad hbj hbs hn hb
  generalize S l = s at *
  generalize S all = sa at *
  go_enter Tryd.func38, Tryd.ntmps38
  go_wp2
  go_loopw [8] (fun i wr => ∃ k : Nat, k ≤ j ∧ i = .int .i64 (k : Int) ∧ w = wr) (fun i _ => j - (intOf i).toNat)
  case atStart => exact ⟨0, Nat.zero_le _, rfl, rfl⟩
  case round =>
    obtain ⟨k, hk, rfl, rfl⟩ := hrel
    by_cases hkn : k < n
    · have hki : (k : Int) < (n : Int) := by omega
      have hk0 : (0 : Int) ≤ (k : Int) := by omega
      have hbk := HBS.out k
      by_cases hlt : k < j
      · have hc := cH.out _ true (HG.out k hlt) w
        rw [← hbk] at hc
        clear hbk
        go_wp2_with fail
        refine hc.mono ?_
        rintro e w1 ⟨rfl, rfl⟩
        go_wp2
        go_roundw
        case rel => exact ⟨k + 1, by omega, by go_num, trivial⟩
        case measure => simp [intOf]; omega
      · obtain rfl : k = j := by omega
        have hc := cH.out _ false (HB.out hkn) w
        rw [← hbk] at hc
        clear hbk
        obtain rfl : b = false := HBJ.out hkn
        go_wp2_with fail
        refine hc.mono ?_
        rintro e w1 ⟨rfl, rfl⟩
        go_wp2
        go_ret
        exact ⟨rfl, Below.refl _ _⟩
    · obtain rfl : k = n := by omega
      go_wp2_with fail
      refine (cC.out (by omega) _).mono ?_
      rintro e w1 ⟨rfl, c⟩
      go_wp2
      go_ret
      exact ⟨rfl, c⟩
end Go.Proofs.YtjfdolmcecgdgaaDoor
