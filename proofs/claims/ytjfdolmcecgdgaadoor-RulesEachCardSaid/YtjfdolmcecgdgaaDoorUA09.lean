/- Package rules: isDigit, isLetter, contains. libraryref09: Has. -/
import Derived.Test.YtjfdolmcecgdgaaDoorTL09
import Derived.Test.YtjfdolmcecgdgaaDoorShelf
import Derived.Lib.Hide
namespace Go.Proofs.YtjfdolmcecgdgaaDoor
open Go.RowKit Go.PlainAid

def letB9 (x : UInt8) : Bool := decide (97 ≤ x.toNat) && decide (x.toNat ≤ 122)
theorem codeB_eq9 (x : UInt8) : codeB x = (digB x || letB9 x) := rfl

set_option maxHeartbeats 4000000 in
theorem uDigit_any (x : UInt8) (b : Bool) (hb : digB x = b) (w : World) :
    Calls Tryd.prog 41 #[.int .u8 (x.toNat : Int)] w fun e w' => e = .returned (.bool b) ∧ w' = w := by
  unfold digB at hb
  by_cases h1 : 48 ≤ x.toNat
  · have t1 : decide ((48 : Int) ≤ (x.toNat : Int)) = true := decide_eq_true (by omega)
    rw [decide_eq_true h1, Bool.true_and] at hb
    have t2 : decide ((x.toNat : Int) ≤ 57) = b := by rw [← hb, decide_eq_decide]; omega
    clear hb h1
    generalize x.toNat = n at *
    go_enter Tryd.func41, Tryd.ntmps41
    go_wp2
    go_ret
    exact ⟨rfl, rfl⟩
  · have t1 : decide ((48 : Int) ≤ (x.toNat : Int)) = false := decide_eq_false (by omega)
    rw [decide_eq_false h1, Bool.false_and] at hb
    subst hb
    clear h1
    generalize x.toNat = n at *
    go_enter Tryd.func41, Tryd.ntmps41
    go_wp2
    go_ret
    exact ⟨rfl, rfl⟩

set_option maxHeartbeats 4000000 in
theorem uLetter_any (x : UInt8) (b : Bool) (hb : letB9 x = b) (w : World) :
    Calls Tryd.prog 42 #[.int .u8 (x.toNat : Int)] w fun e w' => e = .returned (.bool b) ∧ w' = w := by
  unfold letB9 at hb
  by_cases h1 : 97 ≤ x.toNat
  · have t1 : decide ((97 : Int) ≤ (x.toNat : Int)) = true := decide_eq_true (by omega)
    rw [decide_eq_true h1, Bool.true_and] at hb
    have t2 : decide ((x.toNat : Int) ≤ 122) = b := by rw [← hb, decide_eq_decide]; omega
    clear hb h1
    generalize x.toNat = n at *
    go_enter Tryd.func42, Tryd.ntmps42
    go_wp2
    go_ret
    exact ⟨rfl, rfl⟩
  · have t1 : decide ((97 : Int) ≤ (x.toNat : Int)) = false := decide_eq_false (by omega)
    rw [decide_eq_false h1, Bool.false_and] at hb
    subst hb
    clear h1
    generalize x.toNat = n at *
    go_enter Tryd.func42, Tryd.ntmps42
    go_wp2
    go_ret
    exact ⟨rfl, rfl⟩


theorem index_in9 (c : UInt8) (l : List UInt8) : decide (0 ≤ Lib.indexByte l c) = l.any (fun x => decide (x = c)) := by
  induction l with
  | nil => rfl
  | cons b l ih =>
    have hg := Lib.indexByte_ge l c
    rw [Lib.indexByte, List.any_cons]
    by_cases h : b = c
    · rw [if_pos (by rw [h]; simp), decide_eq_true h, Bool.true_or]
      rfl
    · rw [if_neg (by simpa using h), decide_eq_false h, Bool.false_or, ← ih]
      by_cases h1 : Lib.indexByte l c = -1
      · rw [if_pos (by rw [h1]; rfl), h1]
      · rw [if_neg (by simpa using h1), decide_eq_decide]
        omega

theorem index_has (c : UInt8) (l : List UInt8) : decide (0 ≤ Lib.indexByte l c) = hasB l c := index_in9 c l

set_option maxHeartbeats 4000000 in
theorem uContains_any (l : List UInt8) (c : UInt8) (b : Bool) (hb : hasB l c = b) (w : World) :
    Calls Tryd.prog 43 #[.string (S l), .int .u8 (c.toNat : Int)] w fun e w' => e = .returned (.bool b) ∧ w' = w := by
  have h := fun W => Tryd.strings_IndexByte (S l) (c.toNat : Int) W
  have e : ((c.toNat : Int)).toNat.toUInt8 = c := by simp
  rw [e] at h
  have H := Lib.hid h
  have hd : decide (0 ≤ Lib.indexByte l c) = b := by rw [index_has, hb]
  rw [show (S l).data.toList = l from rfl] at H
  clear h e hb
  generalize Lib.indexByte l c = ix at *
  generalize S l = s at *
  generalize c.toNat = n at *
  go_enter Tryd.func43, Tryd.ntmps43
  go_wp2_with fail
  refine (H.out _).mono ?_
  rintro e w1 ⟨rfl, rfl⟩
  go_wp2
  go_ret
  exact ⟨rfl, rfl⟩

set_option maxHeartbeats 8000000 in
theorem refHas_any (l : List UInt8) (c : UInt8) (hz : l.length ≤ 1000000) (b : Bool) (hb : hasB l c = b) (w : World) :
    Calls Tryd.prog 32 #[.string (S l), .int .u8 (c.toNat : Int)] w fun e w' => e = .returned (.bool b) ∧ w' = w := by
  have hbt := get_bt (S l)
  obtain ⟨n, hn⟩ : ∃ n, l.length = n := ⟨_, rfl⟩
  have hsz : (S l).size = n := by rw [S_size, hn]
  obtain ⟨j, hj, hg, hbad⟩ : ∃ j, j ≤ n ∧ (∀ i, i < j → (!decide (l.getD i 0 = c)) = true) ∧ (j < n → (!decide (l.getD j 0 = c)) = false) := by
    rcases first_bad (fun i => !decide (l.getD i 0 = c)) n with h | ⟨j, hj, h1, h2⟩
    · exact ⟨n, Nat.le_refl _, h, fun h => by omega⟩
    · exact ⟨j, by omega, h1, fun _ => h2⟩
  have hbb : b = decide (j < n) := by
    rw [← hb]
    unfold hasB
    by_cases h : j < n
    · rw [decide_eq_true h, List.any_eq_true]
      have hx := hbad h
      simp only [Bool.not_eq_false', decide_eq_true_eq] at hx
      rw [List.getD_eq_getElem?_getD, List.getElem?_eq_getElem (by omega)] at hx
      exact ⟨l[j], List.getElem_mem _, by simpa using hx⟩
    · rw [decide_eq_false h, List.any_eq_false]
      intro y hy
      obtain ⟨i, hi, rfl⟩ := List.getElem_of_mem hy
      have := hg i (by omega)
      rw [List.getD_eq_getElem?_getD, List.getElem?_eq_getElem hi] at this
      simpa using this
  have HG := Lib.hid hg
  have HB := Lib.hid hbad
  have HBB := Lib.hid hbb
  have HBS := Lib.hid (fun i => bt_S l i)
  rw [hn] at hz
  clear hg hbad hbb hn hb
  generalize S l = s at *
  go_enter Tryd.func32, Tryd.ntmps32
  go_wp2
  go_loopw [5] (fun i wr => ∃ k : Nat, k ≤ j ∧ i = .int .i64 (k : Int) ∧ w = wr) (fun i _ => j - (intOf i).toNat)
  case atStart => exact ⟨0, Nat.zero_le _, rfl, rfl⟩
  case round =>
    obtain ⟨k, hk, rfl, rfl⟩ := hrel
    by_cases hkn : k < n
    · have hki : (k : Int) < (n : Int) := by omega
      have hbk := HBS.out k
      by_cases hlt : k < j
      · have hd := HG.out k hlt
        simp only [Bool.not_eq_true', decide_eq_false_iff_not] at hd
        have t1 : (bt s k == (c.toNat : Int)) = false := by
          rw [hbk]
          have : (l.getD k 0).toNat ≠ c.toNat := fun h => hd (UInt8.toNat_inj.1 h)
          exact beq_eq_false_iff_ne.2 (fun h => this (by omega))
        clear hbk hd
        generalize (c.toNat : Int) = xn at *
        go_wp2
        go_roundw
        case rel => exact ⟨k + 1, by omega, by go_num, trivial⟩
        case measure => simp [intOf]; omega
      · obtain rfl : k = j := by omega
        have hd := HB.out hkn
        simp only [Bool.not_eq_false', decide_eq_true_eq] at hd
        obtain rfl : b = true := by rw [HBB.out, decide_eq_true hkn]
        have t1 : bt s k = (c.toNat : Int) := by rw [hbk, hd]
        clear hbk hd
        generalize (c.toNat : Int) = xn at *
        go_wp2
        go_ret
        exact ⟨rfl, rfl⟩
    · obtain rfl : k = n := by omega
      obtain rfl : j = k := by omega
      obtain rfl : b = false := by rw [HBB.out, decide_eq_false (Nat.lt_irrefl _)]
      generalize (c.toNat : Int) = xn at *
      go_wp2
      go_ret
      exact ⟨rfl, rfl⟩
end Go.Proofs.YtjfdolmcecgdgaaDoor
