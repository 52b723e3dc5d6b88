/- libraryref07: digit, Code, Tag, in. -/
import Derived.Test.YtjajihemcaihmaaDoorQL
namespace Go.Proofs.YtjajihemcaihmaaDoor
open Go.RowKit Go.PlainAid

set_option maxHeartbeats 4000000 in
theorem refdigit_any (x : UInt8) (b : Bool) (hb : digB x = b) (w : World) :
    Calls Tryd.prog 31 #[.int .u8 (x.toNat : Int)] w fun e w' => e = .returned (.bool b) ∧ w' = w := by
  unfold digB at hb
  by_cases h1 : 48 ≤ x.toNat
  · have t1 : decide ((48 : Int) ≤ (x.toNat : Int)) = true := decide_eq_true (by omega)
    rw [decide_eq_true h1, Bool.true_and] at hb
    have t2 : decide ((x.toNat : Int) ≤ 57) = b := by rw [← hb, decide_eq_decide]; omega
    clear hb h1
    generalize x.toNat = n at *
    go_enter Tryd.func31, Tryd.ntmps31
    go_wp2
    go_ret
    exact ⟨rfl, rfl⟩
  · have t1 : decide ((48 : Int) ≤ (x.toNat : Int)) = false := decide_eq_false (by omega)
    rw [decide_eq_false h1, Bool.false_and] at hb
    subst hb
    clear h1
    generalize x.toNat = n at *
    go_enter Tryd.func31, Tryd.ntmps31
    go_wp2
    go_ret
    exact ⟨rfl, rfl⟩

set_option maxHeartbeats 4000000 in
theorem refCode_any (x : UInt8) (b : Bool) (hb : codeB x = b) (w : World) :
    Calls Tryd.prog 32 #[.int .u8 (x.toNat : Int)] w fun e w' => e = .returned (.bool b) ∧ w' = w := by
  unfold codeB at hb
  cases hd : digB x
  · have c1 := Lib.hid (fun W => refdigit_any x false hd W)
    rw [hd, Bool.false_or] at hb
    clear hd
    by_cases h1 : 97 ≤ x.toNat
    · have t1 : decide ((97 : Int) ≤ (x.toNat : Int)) = true := decide_eq_true (by omega)
      rw [decide_eq_true h1, Bool.true_and] at hb
      have t2 : decide ((x.toNat : Int) ≤ 122) = b := by rw [← hb, decide_eq_decide]; omega
      clear hb h1
      generalize x.toNat = n at *
      go_enter Tryd.func32, Tryd.ntmps32
      go_wp2_with fail
      refine (c1.out _).mono ?_
      rintro e w1 ⟨rfl, rfl⟩
      go_wp2
      go_ret
      exact ⟨rfl, rfl⟩
    · have t1 : decide ((97 : Int) ≤ (x.toNat : Int)) = false := decide_eq_false (by omega)
      rw [decide_eq_false h1, Bool.false_and] at hb
      subst hb
      clear h1
      generalize x.toNat = n at *
      go_enter Tryd.func32, Tryd.ntmps32
      go_wp2_with fail
      refine (c1.out _).mono ?_
      rintro e w1 ⟨rfl, rfl⟩
      go_wp2
      go_ret
      exact ⟨rfl, rfl⟩
  · have c1 := Lib.hid (fun W => refdigit_any x true hd W)
    rw [hd, Bool.true_or] at hb
    subst hb
    clear hd
    generalize x.toNat = n at *
    go_enter Tryd.func32, Tryd.ntmps32
    go_wp2_with fail
    refine (c1.out _).mono ?_
    rintro e w1 ⟨rfl, rfl⟩
    go_wp2
    go_ret
    exact ⟨rfl, rfl⟩

set_option maxHeartbeats 8000000 in
theorem refin_any (x : UInt8) (l : List UInt8) (hz : l.length ≤ 1000000) (b : Bool) (hb : inB x l = b) (w : World) :
    Calls Tryd.prog 40 #[.int .u8 (x.toNat : Int), .string (S l)] w fun e w' => e = .returned (.bool b) ∧ w' = w := by
  have hbt := get_bt (S l)
  obtain ⟨n, hn⟩ : ∃ n, l.length = n := ⟨_, rfl⟩
  have hsz : (S l).size = n := by rw [S_size, hn]
  obtain ⟨j, hj, hg, hbad⟩ : ∃ j, j ≤ n ∧ (∀ i, i < j → (!decide (l.getD i 0 = x)) = true) ∧ (j < n → (!decide (l.getD j 0 = x)) = false) := by
    rcases first_bad (fun i => !decide (l.getD i 0 = x)) n with h | ⟨j, hj, h1, h2⟩
    · exact ⟨n, Nat.le_refl _, h, fun h => by omega⟩
    · exact ⟨j, by omega, h1, fun _ => h2⟩
  have hbb : b = (decide (j < n) || decide (n = 0)) := by
    rw [← hb]
    unfold inB
    have h1 : l.any (fun y => decide (y = x)) = decide (j < n) := by
      by_cases h : j < n
      · rw [decide_eq_true h, List.any_eq_true]
        have hx := hbad h
        simp only [Bool.not_eq_false', decide_eq_true_eq] at hx
        rw [List.getD_eq_getElem?_getD, List.getElem?_eq_getElem (by omega)] at hx
        exact ⟨l[j], List.getElem_mem _, by simpa using hx⟩
      · rw [decide_eq_false h, List.any_eq_false]
        intro y hy
        obtain ⟨i, hi, rfl⟩ := List.getElem_of_mem hy
        have := hg i (by omega)
        rw [List.getD_eq_getElem?_getD, List.getElem?_eq_getElem hi] at this
        simpa using this
    have h2 : decide (l = []) = decide (n = 0) := by rw [decide_eq_decide, ← hn, List.length_eq_zero_iff]
    rw [h1, h2]
  have HG := Lib.hid hg
  have HB := Lib.hid hbad
  have HBB := Lib.hid hbb
  have HBS := Lib.hid (fun i => bt_S l i)
  have HEmpty : RowKit.Hid (((S l).toList == []) = decide (n = 0)) := by
    unfold RowKit.Hid
    rw [ByteArray.toList_eq]
    show (l == []) = _
    cases l with
    | nil => simp at hn; subst hn; rfl
    | cons y t => simp at hn; subst hn; simp
  rw [hn] at hz
  clear hg hbad hbb hn hb
  generalize S l = s at *
  go_enter Tryd.func40, Tryd.ntmps40
  go_wp2
  go_loopw [5] (fun i wr => ∃ k : Nat, k ≤ j ∧ i = .int .i64 (k : Int) ∧ w = wr) (fun i _ => j - (intOf i).toNat)
  case atStart => exact ⟨0, Nat.zero_le _, rfl, rfl⟩
  case round =>
    obtain ⟨k, hk, rfl, rfl⟩ := hrel
    by_cases hkn : k < n
    · have hki : (k : Int) < (n : Int) := by omega
      have hbk := HBS.out k
      by_cases hlt : k < j
      · have hd := HG.out k hlt
        simp only [Bool.not_eq_true', decide_eq_false_iff_not] at hd
        have t1 : (bt s k == (x.toNat : Int)) = false := by
          rw [hbk]
          have : (l.getD k 0).toNat ≠ x.toNat := fun h => hd (UInt8.toNat_inj.1 h)
          exact beq_eq_false_iff_ne.2 (fun h => this (by omega))
        clear hbk hd
        generalize (x.toNat : Int) = xn at *
        go_wp2
        go_roundw
        case rel => exact ⟨k + 1, by omega, by go_num, trivial⟩
        case measure => simp [intOf]; omega
      · obtain rfl : k = j := by omega
        have hd := HB.out hkn
        simp only [Bool.not_eq_false', decide_eq_true_eq] at hd
        obtain rfl : b = true := by rw [HBB.out, decide_eq_true hkn]; rfl
        have t1 : bt s k = (x.toNat : Int) := by rw [hbk, hd]
        clear hbk hd
        generalize (x.toNat : Int) = xn at *
        go_wp2
        go_ret
        exact ⟨rfl, rfl⟩
    · obtain rfl : k = n := by omega
      obtain rfl : j = k := by omega
      have hE := HEmpty.out
      have hB : decide (j = 0) = b := by rw [HBB.out, decide_eq_false (Nat.lt_irrefl _), Bool.false_or]
      rw [hB] at hE
      generalize (x.toNat : Int) = xn at *
      go_wp2
      go_ret
      exact ⟨rfl, rfl⟩
end Go.Proofs.YtjajihemcaihmaaDoor
