/- Merged: R05B, R05C, R05D, R05E. -/
import Derived.Test.YtfjfpefpdlecbaaGreatDoorQ10
import Derived.BigQuiet
import Derived.RegionTactic
import Derived.BigRegion
namespace Go.Proofs.YtfjfpefpdlecbaaGreatDoor

section
open Go.RowKit Go.PlainAid
theorem mkB_digs (k n : Nat) (hk : k ≤ 9) : (mkB k n).all dgB5 = true := by
  have hdg : ∀ c, c ≤ 9 → dgB5 (dgt c) = true := fun c hc => by rw [dgB5_iff, dgt_nat c hc]; omega
  have h2 : ∀ m, (digU n m).all dgB5 = true := by
    intro m
    induction m with
    | zero => rfl
    | succ m ih => simp only [digU, List.all_cons, ih, Bool.and_true]; exact hdg _ (by omega)
  unfold mkB
  rw [List.all_cons, hdg k hk, h2]
  rfl
theorem mkB_length (k n : Nat) : (mkB k n).length = 13 := by simp [mkB, digU_length]

theorem results_tmp3 {fn : Func} {t u v : Tmp} (h : fn.results = #[.tmp t, .tmp u, .tmp v]) (tmps : Array Value) (P : Program) (w : World) :
    (results fn tmps).run P w = .ok (.tuple #[tmps.getD t undef, tmps.getD u undef, tmps.getD v undef]) w := by
  simp [results, h]

theorem valL5_le (l : List UInt8) (a : Nat) (k : Nat) (h : ∀ i, i < k → dv l (a + i) ≤ 9) : valL5 l a k + 1 ≤ 10 ^ k := by
  induction k with
  | zero => simp [valL5]
  | succ k ih =>
    have := ih (fun i hi => h i (by omega))
    have := h k (by omega)
    simp only [valL5, Nat.pow_succ]
    omega
end

section
open Go.RowKit Go.PlainAid
theorem removed_snoc (l : List UInt8) (k : Nat) (h : k < l.length) : removed (l.take (k + 1)) = removed (l.take k) ++ (if keep (l.getD k 0) = true then [l.getD k 0] else []) := by
  have e : l.getD k 0 = l[k] := by rw [List.getD_eq_getElem?_getD, List.getElem?_eq_getElem h]; rfl
  rw [List.take_succ_eq_append_getElem h, removed, List.filter_append, e]
  congr 1
  cases hk : keep l[k] <;> simp [hk]
theorem removed_length (l : List UInt8) : (removed l).length ≤ l.length := List.length_filter_le _ _

set_option maxHeartbeats 8000000 in
theorem refRemoved_any (l : List UInt8) (hz : l.length ≤ 1000000) (w : World) :
    Calls Tryz.prog 96 #[.string (S l)] w fun e w' => e = .returned (.string (S (removed l))) ∧ Below w.heap.size w w' := by
  have hbt := get_bt (S l)
  obtain ⟨i0, hi0, hz0, hz1, hz2⟩ := info_byte
  obtain ⟨n, hn⟩ : ∃ n, l.length = n := ⟨_, rfl⟩
  have hsz : (S l).size = n := by rw [S_size, hn]
  have HBS := Lib.hid (fun i => bt_S l i)
  have HSn := Lib.hid (fun k (hk : k < n) => removed_snoc l k (by omega))
  have HLen := Lib.hid (fun k => Nat.le_trans (removed_length (l.take k)) (List.length_take_le k l))
  have HEnd : RowKit.Hid (removed (l.take n) = removed l) := by unfold RowKit.Hid; rw [← hn, List.take_length]
  rw [hn] at hz
  have hst := Byt.empty w
  have hb0 := (Below.refl w.heap.size w).alloc (Nat.le_refl _) (.cells #[] 5)
  clear hn
  generalize S l = s at *
  go_enter Tryz.func96, Tryz.ntmps96
  go_wp2
  go_loopw [3, 4] (fun b i wr => ∃ k : Nat, k ≤ n ∧ i = .int .i64 (k : Int) ∧ Byt w.heap.size b (removed (l.take k)) wr ∧ Below w.heap.size w wr) (fun _ i _ => n - (intOf i).toNat)
  case atStart => exact ⟨0, Nat.zero_le _, rfl, hst, hb0⟩
  case round =>
    obtain ⟨k, hk, rfl, hbyt, hbw⟩ := hrel
    clear hst hb0
    by_cases hkn : k < n
    · have hki : (k : Int) < (n : Int) := by omega
      have hv := HBS.out k
      have HS := Lib.hid (HSn.out k hkn)
      have hlen := HLen.out k
      generalize l.getD k 0 = x at *
      have HX := Lib.hid hv
      clear hv
      by_cases h45 : x = 45
      · have hkp : RowKit.Hid (removed (l.take (k + 1)) = removed (l.take k)) := by
          have h := HS.out
          rw [h45] at h
          exact h.trans (List.append_nil _)
        have hv : bt s k = 45 := by rw [HX.out, h45]; rfl
        clear HS HX h45
        have HY := Lib.hid hbyt
        clear hbyt
        go_wp2
        go_roundw
        case rel => exact ⟨k + 1, by omega, by go_num, by rw [hkp.out]; exact HY.out, hbw⟩
        case measure => simp [intOf]; omega
      · have t1 : (bt s k != 45) = true := by
          have : x.toNat ≠ 45 := fun h => h45 (UInt8.toNat_inj.1 h)
          have := HX.out
          simp; omega
        by_cases h32 : x = 32
        · have hkp : RowKit.Hid (removed (l.take (k + 1)) = removed (l.take k)) := by
            have h := HS.out
            rw [h32] at h
            exact h.trans (List.append_nil _)
          have hv : bt s k = 32 := by rw [HX.out, h32]; rfl
          clear HS HX h45 h32 t1
          have HY := Lib.hid hbyt
          clear hbyt
          go_wp2
          go_roundw
          case rel => exact ⟨k + 1, by omega, by go_num, by rw [hkp.out]; exact HY.out, hbw⟩
          case measure => simp [intOf]; omega
        · have t2 : (bt s k != 32) = true := by
            have : x.toNat ≠ 32 := fun h => h32 (UInt8.toNat_inj.1 h)
            have := HX.out
            simp; omega
          have t3 : (bt s k == 45) = false := by simpa using t1
          have t4 : (bt s k == 32) = false := by simpa using t2
          have hkp : RowKit.Hid (removed (l.take (k + 1)) = removed (l.take k) ++ [x]) := by
            have h := HS.out
            rw [if_pos (by simp [keep, h45, h32])] at h
            exact h
          clear HS h45 h32
          generalize removed (l.take k) = rs at *
          have HR := Lib.hid hbyt.row
          have hwr := hbw.size
          clear hbyt
          go_wp2_with (at_builtin; go_loud (refine wpList_append_own _ rfl _ _ 65 rfl w.heap.size 5 i0 (.int .u8 0) 1 1 Tryz.underlying65 hi0 hz0 hz1 hz2 rfl (by decide) _ _ _ rfl (HR.out.alloc _) ⟨wr.heap.size, 0, none⟩ 1 1 [.int .u8 (bt s k)] rfl rfl (cells_one _ _ _) (by intro u hu; simp at hu; subst hu; rfl) (by unfold maxLen; omega) (by omega) (by simp; omega) ?_))
          intro v' W1 hown1 hg1 _
          have hB1 := (hbw.alloc hwr (.cells #[.int .u8 (bt s k)] 5)).grown hg1 (by simp; omega) (fun y hy => ((HR.out.alloc (.cells #[.int .u8 (bt s k)] 5)).lt y hy).1)
          have HY : RowKit.Hid (Byt w.heap.size v' (removed (l.take (k + 1))) W1) := by
            unfold RowKit.Hid
            rw [hkp.out]
            refine Byt.mk' ?_ (by simp)
            rw [HX.out] at hown1
            rw [List.length_append, List.map_append]
            exact hown1
          clear hown1 hg1 HR HX
          go_wp2
          go_roundw
          case rel => exact ⟨k + 1, by omega, by go_num, HY.out, hB1⟩
          case measure => simp [intOf]; omega
    · obtain rfl : k = n := by omega
      rw [HEnd.out] at hbyt
      have hcv := hbyt.str
      clear hbyt
      go_wp2
      go_ret
      exact ⟨rfl, hbw⟩

set_option maxHeartbeats 8000000 in
theorem refalternating_any (l : List UInt8) (hz : l.length ≤ 1000000) (hd : l.all dgB5 = true) (w : World) :
    Calls Tryz.prog 98 #[.string (S l)] w fun e w' => e = .returned (.int .i64 (altS l : Nat)) ∧ w' = w := by
  have hbt := get_bt (S l)
  obtain ⟨n, hn⟩ : ∃ n, l.length = n := ⟨_, rfl⟩
  have hsz : (S l).size = n := by rw [S_size, hn]
  have hdg := (all_getD5 l dgB5).1 hd
  have HD := Lib.hid (fun i (hi : i < n) => dv_le l i (hdg i (by omega)))
  have HBS := Lib.hid (fun i => bt_S l i)
  have HC : RowKit.Hid (altS l = addN (fun i => if i % 2 = 1 then 3 * dv l i else dv l i) n) := by unfold RowKit.Hid altS; rw [hn]
  have HSum := Lib.hid (fun k (hk : k ≤ n) => addN_le (fun i => if i % 2 = 1 then 3 * dv l i else dv l i) 27 k (fun i hi => by have := (dv_le l i (hdg i (by omega))).1; split <;> omega))
  rw [hn] at hz
  clear hdg hd hn
  generalize altS l = cc at *
  generalize S l = s at *
  go_enter Tryz.func98, Tryz.ntmps98
  go_wp2
  go_loopw [3, 4] (fun su i wr => ∃ k : Nat, k ≤ n ∧ i = .int .i64 (k : Int) ∧ su = .int .i64 ((addN (fun i => if i % 2 = 1 then 3 * dv l i else dv l i) k : Nat) : Int) ∧ wr = w) (fun _ i _ => n - (intOf i).toNat)
  case atStart => exact ⟨0, Nat.zero_le _, rfl, rfl, rfl⟩
  case round =>
    obtain ⟨k, hk, rfl, rfl, rfl⟩ := hrel
    have hsb : addN (fun i => if i % 2 = 1 then 3 * dv l i else dv l i) k ≤ 27000000 := by have := HSum.out k hk; omega
    by_cases hkn : k < n
    · have HV : RowKit.Hid (addN (fun i => if i % 2 = 1 then 3 * dv l i else dv l i) (k + 1) = addN (fun i => if i % 2 = 1 then 3 * dv l i else dv l i) k + (if k % 2 = 1 then 3 * dv l k else dv l k)) := rfl
      obtain ⟨hd9, hdb⟩ := HD.out k hkn
      have hv := HBS.out k
      rw [hdb] at hv
      have hki : (k : Int) < (n : Int) := by omega
      have hv : bt s k = 48 + ((dv l k : Nat) : Int) := by rw [hv]; omega
      have r1 : Int.tmod (k : Int) 2 = ((k % 2 : Nat) : Int) := by rw [Int.tmod_eq_emod_of_nonneg (by omega)]; omega
      have r2 : (k : Int) % 2 = ((k % 2 : Nat) : Int) := by omega
      have ho : k % 2 ≤ 1 := by omega
      generalize addN (fun i => if i % 2 = 1 then 3 * dv l i else dv l i) k = sx at *
      generalize dv l k = d at *
      generalize k % 2 = o at *
      by_cases h1 : o = 1
      · subst h1
        have HV2 : RowKit.Hid (addN (fun i => if i % 2 = 1 then 3 * dv l i else dv l i) (k + 1) = sx + 3 * d) := HV.out.trans (by rw [if_pos rfl])
        clear HV
        go_wp2
        go_roundw
        case rel => exact ⟨k + 1, by omega, by go_num, by rw [HV2.out]; go_num, trivial⟩
        case measure => simp [intOf]; omega
      · have HV2 : RowKit.Hid (addN (fun i => if i % 2 = 1 then 3 * dv l i else dv l i) (k + 1) = sx + d) := HV.out.trans (by rw [if_neg h1])
        have t1 : ((o : Int) == 1) = false := by simp; omega
        clear HV
        go_wp2
        go_roundw
        case rel => exact ⟨k + 1, by omega, by go_num, by rw [HV2.out]; go_num, trivial⟩
        case measure => simp [intOf]; omega
    · obtain rfl : k = n := by omega
      rw [← HC.out]
      go_wp2
      go_ret
      exact ⟨rfl, rfl⟩

theorem ended_at (l : List UInt8) (h : endedB l = true) : 1 ≤ l.length ∧ (∀ i, i + 1 < l.length → dgB5 (l.getD i 0) = true) ∧ (dgB5 (l.getD (l.length - 1) 0) = true ∨ l.getD (l.length - 1) 0 = 88) := by
  unfold endedB at h
  simp only [Bool.and_eq_true, decide_eq_true_eq, Bool.or_eq_true] at h
  obtain ⟨⟨h1, h2⟩, h3⟩ := h
  refine ⟨h1, fun i hi => ?_, h3⟩
  have := (all_getD5 _ _).1 h2 i (by rw [List.length_take]; omega)
  rwa [List.getD_eq_getElem?_getD, List.getElem?_take_of_lt (by omega), ← List.getD_eq_getElem?_getD] at this
theorem ended_each (l : List UInt8) (h : endedB l = true) (i : Nat) (hi : i < l.length) : dgB5 (l.getD i 0) = true ∨ l.getD i 0 = 88 := by
  obtain ⟨_, h2, h3⟩ := ended_at l h
  by_cases he : i + 1 < l.length
  · exact .inl (h2 i he)
  · have : i = l.length - 1 := by omega
    rw [this]
    exact h3

set_option maxHeartbeats 8000000 in
theorem refweighted_any (l : List UInt8) (hz : l.length ≤ 10000) (hd : endedB l = true) (w : World) :
    Calls Tryz.prog 100 #[.string (S l)] w fun e w' => e = .returned (.int .i64 (wS l : Nat)) ∧ w' = w := by
  have hbt := get_bt (S l)
  obtain ⟨n, hn⟩ : ∃ n, l.length = n := ⟨_, rfl⟩
  have hsz : (S l).size = n := by rw [S_size, hn]
  have hwd : ∀ i, i < n → wd (l.getD i 0) ≤ 10 ∧ ((l.getD i 0 = 88 ∧ wd (l.getD i 0) = 10) ∨ (l.getD i 0 ≠ 88 ∧ (l.getD i 0).toNat = 48 + wd (l.getD i 0))) := by
    intro i hi
    unfold wd
    by_cases h88 : l.getD i 0 = 88
    · rw [if_pos h88]
      exact ⟨Nat.le_refl _, .inl ⟨h88, rfl⟩⟩
    · rw [if_neg h88]
      rcases ended_each l hd i (by omega) with h | h
      · rw [dgB5_iff] at h
        exact ⟨by omega, .inr ⟨h88, by omega⟩⟩
      · exact absurd h h88
  have HD := Lib.hid hwd
  have HBS := Lib.hid (fun i => bt_S l i)
  have HC : RowKit.Hid (wS l = addN (fun i => wd (l.getD i 0) * (n - i)) n) := by unfold RowKit.Hid wS; rw [hn]
  have HSum := Lib.hid (fun k (hk : k ≤ n) => addN_le (fun i => wd (l.getD i 0) * (n - i)) 100000 k (fun i hi => Nat.le_trans (Nat.mul_le_mul (hwd i (by omega)).1 (Nat.sub_le n i)) (by omega)))
  rw [hn] at hz
  clear hwd hd hn
  generalize wS l = cc at *
  generalize S l = s at *
  go_enter Tryz.func100, Tryz.ntmps100
  go_wp2
  go_loopw [3, 4] (fun su i wr => ∃ k : Nat, k ≤ n ∧ i = .int .i64 (k : Int) ∧ su = .int .i64 ((addN (fun i => wd (l.getD i 0) * (n - i)) k : Nat) : Int) ∧ wr = w) (fun _ i _ => n - (intOf i).toNat)
  case atStart => exact ⟨0, Nat.zero_le _, rfl, rfl, rfl⟩
  case round =>
    obtain ⟨k, hk, rfl, rfl, rfl⟩ := hrel
    have hsb : addN (fun i => wd (l.getD i 0) * (n - i)) k ≤ 1000000000 := by have := HSum.out k hk; omega
    by_cases hkn : k < n
    · have HV : RowKit.Hid (addN (fun i => wd (l.getD i 0) * (n - i)) (k + 1) = addN (fun i => wd (l.getD i 0) * (n - i)) k + wd (l.getD k 0) * (n - k)) := rfl
      obtain ⟨hd9, hcase⟩ := HD.out k hkn
      have hv0 := HBS.out k
      have hki : (k : Int) < (n : Int) := by omega
      have e1 : (n : Int) - (k : Int) = ((n - k : Nat) : Int) := by omega
      have hmul : wd (l.getD k 0) * (n - k) ≤ 100000 := Nat.le_trans (Nat.mul_le_mul hd9 (Nat.sub_le n k)) (by omega)
      have hc : ((wd (l.getD k 0) : Nat) : Int) * ((n - k : Nat) : Int) = ((wd (l.getD k 0) * (n - k) : Nat) : Int) := (Int.natCast_mul _ _).symm
      generalize addN (fun i => wd (l.getD i 0) * (n - i)) k = sx at *
      rcases hcase with ⟨h88, hw⟩ | ⟨h88, hw⟩
      · have hv : bt s k = 88 := by rw [hv0, h88]; rfl
        clear hv0
        rw [hw] at hc hmul HV
        have HV2 : RowKit.Hid (addN (fun i => wd (l.getD i 0) * (n - i)) (k + 1) = sx + 10 * (n - k)) := HV.out
        clear h88 hw HV hd9
        generalize 10 * (n - k) = pr at *
        generalize n - k = dd at *
        go_wp2
        go_roundw
        case rel => exact ⟨k + 1, by omega, by go_num, by rw [HV2.out]; go_num, trivial⟩
        case measure => simp [intOf]; omega
      · rw [hw] at hv0
        have t1 : (bt s k != 88) = true := by
          have : (l.getD k 0).toNat ≠ 88 := fun h => h88 (UInt8.toNat_inj.1 h)
          simp; omega
        have t2 : (bt s k == 88) = false := by simpa using t1
        have hv : bt s k = 48 + ((wd (l.getD k 0) : Nat) : Int) := by rw [hv0]; omega
        rw [hv] at t1 t2
        have hc2 : ((48 : Int) + ((wd (l.getD k 0) : Nat) : Int) - 48) * ((n - k : Nat) : Int) = ((wd (l.getD k 0) * (n - k) : Nat) : Int) := by rw [show (48 : Int) + ((wd (l.getD k 0) : Nat) : Int) - 48 = ((wd (l.getD k 0) : Nat) : Int) by omega]; exact hc
        clear h88 hw hv0
        generalize wd (l.getD k 0) * (n - k) = pr at *
        generalize wd (l.getD k 0) = x at *
        generalize n - k = dd at *
        go_wp2
        go_roundw
        case rel => exact ⟨k + 1, by omega, by go_num, by rw [HV.out]; go_num, trivial⟩
        case measure => simp [intOf]; omega
    · obtain rfl : k = n := by omega
      rw [← HC.out]
      go_wp2
      go_ret
      exact ⟨rfl, rfl⟩
end

section
open Go.RowKit Go.PlainAid
set_option maxHeartbeats 8000000 in
theorem refended_any (l : List UInt8) (hz : l.length ≤ 1000000) (b : Bool) (hb : endedB l = b) (w : World) :
    Calls Tryz.prog 99 #[.string (S l)] w fun e w' => e = .returned (.bool b) ∧ w' = w := by
  have hbt := get_bt (S l)
  rcases Nat.eq_zero_or_pos l.length with h0 | h0
  · have hl : l = [] := List.eq_nil_of_length_eq_zero h0
    subst hl
    obtain rfl : b = false := hb.symm
    have hsz : (S []).size = 0 := rfl
    generalize S [] = s at *
    go_enter Tryz.func99, Tryz.ntmps99
    go_wp2
    go_ret
    exact ⟨rfl, rfl⟩
  · obtain ⟨m, hm⟩ : ∃ m, l.length = m + 1 := ⟨l.length - 1, by omega⟩
    have hsz : (S l).size = m + 1 := by rw [S_size, hm]
    have e1 : (S l).extract 0 m = S (l.take m) := by rw [S_extract]; rfl
    have e2 : (S l).extract m (m + 1) = S [l.getD m 0] := by
      rw [S_extract, ← hm, List.take_length, List.drop_eq_getElem_cons (by omega), List.drop_of_length_le (by omega), List.getD_eq_getElem?_getD, List.getElem?_eq_getElem (by omega)]
      rfl
    have hv0 := bt_S l m
    unfold endedB at hb
    rw [hm, show m + 1 - 1 = m by omega, decide_eq_true (show 1 ≤ m + 1 by omega), Bool.true_and] at hb
    have e0 : ((m + 1 : Nat) : Int) - 1 = (m : Int) := by omega
    have i0 : (0 : Int) ≤ (m : Int) := by omega
    have i1 : (m : Int) ≤ ((m + 1 : Nat) : Int) := by omega
    have i2 : (m : Int) < ((m + 1 : Nat) : Int) := by omega
    have n1 : m ≤ m + 1 := by omega
    have n2 : m < m + 1 := by omega
    have d0 : decide ((0 : Int) ≤ (m : Int)) = true := decide_eq_true i0
    cases hd : (l.take m).all dgB5
    · have c1 := Lib.hid (fun W => refDigs_any (l.take m) (by rw [List.length_take]; omega) false hd W)
      rw [← e1] at c1
      rw [hd, Bool.false_and] at hb
      subst hb
      obtain ⟨ex, hex⟩ : ∃ ex, (S l).extract 0 m = ex := ⟨_, rfl⟩
      rw [hex] at c1
      clear e1 e2 hd hv0
      generalize S l = s at *
      go_enter Tryz.func99, Tryz.ntmps99
      go_wp2_with fail
      refine (c1.out _).mono ?_
      rintro e w1 ⟨rfl, rfl⟩
      go_wp2
      go_ret
      exact ⟨rfl, rfl⟩
    · have c1 := Lib.hid (fun W => refDigs_any (l.take m) (by rw [List.length_take]; omega) true hd W)
      rw [← e1] at c1
      rw [hd, Bool.true_and] at hb
      obtain ⟨db, hdb⟩ : ∃ db, dgB5 (l.getD m 0) = db := ⟨_, rfl⟩
      have c2 := Lib.hid (fun W => refDigs_any [l.getD m 0] (by simp) db (by simpa using hdb) W)
      rw [← e2] at c2
      rw [hdb] at hb
      have hx : (bt (S l) m == 88) = decide (l.getD m 0 = 88) := by
        rw [hv0]
        by_cases h : l.getD m 0 = 88
        · rw [h]; rfl
        · rw [decide_eq_false h]
          have : (l.getD m 0).toNat ≠ 88 := fun h2 => h (UInt8.toNat_inj.1 h2)
          exact beq_eq_false_iff_ne.2 (fun h2 => this (by omega))
      obtain ⟨xb, hxb⟩ : ∃ xb, decide (l.getD m 0 = 88) = xb := ⟨_, rfl⟩
      rw [hxb] at hb hx
      obtain ⟨ex, hex⟩ : ∃ ex, (S l).extract 0 m = ex := ⟨_, rfl⟩
      obtain ⟨ey, hey⟩ : ∃ ey, (S l).extract m (m + 1) = ey := ⟨_, rfl⟩
      rw [hex] at c1
      rw [hey] at c2
      clear e1 e2 hd hv0 hdb hxb
      generalize S l = s at *
      subst hb
      cases db <;> cases xb
      all_goals
        go_enter Tryz.func99, Tryz.ntmps99
        go_wp2_with fail
        refine (c1.out _).mono ?_
        rintro e w1 ⟨rfl, rfl⟩
        go_wp2_with fail
        refine (c2.out _).mono ?_
        rintro e w1 ⟨rfl, rfl⟩
        go_wp2
        go_ret
        exact ⟨rfl, rfl⟩
end

section
open Go.RowKit Go.PlainAid
theorem S_eq5 (a b : List UInt8) : ((S a).toList == (S b).toList) = decide (a = b) := by
  have h1 : (S a).toList = a := by rw [ByteArray.toList_eq]; rfl
  have h2 : (S b).toList = b := by rw [ByteArray.toList_eq]; rfl
  rw [h1, h2]
  by_cases h : a = b
  · rw [h, decide_eq_true rfl]; simp
  · rw [decide_eq_false h]; simpa using h
theorem getD_take (l : List UInt8) (k i : Nat) (h : i < k) : (l.take k).getD i 0 = l.getD i 0 := by
  rw [List.getD_eq_getElem?_getD, List.getElem?_take_of_lt h, ← List.getD_eq_getElem?_getD]

theorem wS_le (t : List UInt8) (h : t.length ≤ 1000) : wS t ≤ 1000000000 := by
  unfold wS
  have := addN_le (fun i => wd (t.getD i 0) * (t.length - i)) 1000000 t.length (fun i hi => by
    have h1 : wd (t.getD i 0) ≤ 1000 := by
      unfold wd
      have := (t.getD i 0).toNat_lt
      split <;> omega
    exact Nat.le_trans (Nat.mul_le_mul h1 (Nat.le_trans (Nat.sub_le _ _) h)) (by decide))
  exact Nat.le_trans this (Nat.le_trans (Nat.mul_le_mul_right _ h) (by decide))
theorem altS_le (t : List UInt8) (h : t.length ≤ 1000) : altS t ≤ 1000000000 := by
  unfold altS
  have := addN_le (fun i => if i % 2 = 1 then 3 * dv t i else dv t i) 1000 t.length (fun i hi => by
    have h1 : dv t i ≤ 300 := by
      unfold dv
      have := (t.getD i 0).toNat_lt
      omega
    split <;> omega)
  exact Nat.le_trans this (Nat.le_trans (Nat.mul_le_mul_right _ h) (by decide))
theorem byte_at (l : List UInt8) (i : Nat) (c : UInt8) : (bt (S l) i == ((c.toNat : Nat) : Int)) = decide (l.getD i 0 = c) := by
  rw [bt_S]
  by_cases h : l.getD i 0 = c
  · rw [h, decide_eq_true rfl]; simp
  · rw [decide_eq_false h]
    have : (l.getD i 0).toNat ≠ c.toNat := fun h2 => h (UInt8.toNat_inj.1 h2)
    exact beq_eq_false_iff_ne.2 (fun h2 => this (by omega))
end

end Go.Proofs.YtfjfpefpdlecbaaGreatDoor
