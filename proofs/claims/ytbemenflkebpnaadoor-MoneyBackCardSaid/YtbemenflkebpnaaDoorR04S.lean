/- libraryref04.Share: the roads on which it refuses. -/
import Derived.Test.YtbemenflkebpnaaDoorR04A
import Derived.Test.YtbemenflkebpnaaDoorInts
import Derived.Test.YtbemenflkebpnaaDoorOwn2
namespace Go.Proofs.YtbemenflkebpnaaDoor
open Go.RowKit

/-- The weights as numbers. -/
def wN (l : List Int) (i : Nat) : Nat := (l.getD i 0).toNat
def okW (x : Int) : Bool := decide (0 ≤ x) && decide (x ≤ 1000)
/-- Whether an amount can be divided by these weights. -/
def okS (t : Int) (l : List Int) : Bool := rightI t && decide (1 ≤ l.length) && decide (l.length ≤ 16) && l.all okW && decide (sumN (wN l) l.length ≠ 0)
/-- The parts. -/
def shareL (t : Int) (l : List Int) : List Int := (List.range l.length).map fun i => ((share t.toNat l.length (wN l) i : Nat) : Int)

theorem okW_at (l : List Int) (i : Nat) (hi : i < l.length) (h : okW l[i] = true) : l[i] = (wN l i : Int) ∧ wN l i ≤ 1000 := by
  unfold okW at h
  rw [Bool.and_eq_true] at h
  have h0 := of_decide_eq_true h.1
  have h1 := of_decide_eq_true h.2
  unfold wN
  rw [List.getD_eq_getElem?_getD, List.getElem?_eq_getElem hi, Option.getD_some]
  omega
theorem sumW_le (l : List Int) (k : Nat) (h : ∀ i, i < k → wN l i ≤ 1000) : sumN (wN l) k ≤ k * 1000 := by
  have := sumN_le (f := wN l) (g := fun _ => 1000) k h
  rwa [sumN_const] at this
theorem all_first (l : List Int) : (∀ i (h : i < l.length), okW l[i] = true) ∨ ∃ j, ∃ h : j < l.length, (∀ i (h : i < l.length), i < j → okW l[i] = true) ∧ okW l[j] = false := by
  have key : ∀ n, n ≤ l.length → (∀ i (h : i < l.length), i < n → okW l[i] = true) ∨ ∃ j, ∃ h : j < l.length, (∀ i (h : i < l.length), i < j → okW l[i] = true) ∧ okW l[j] = false := by
    intro n
    induction n with
    | zero => intro _; exact .inl fun i _ h => by omega
    | succ n ih =>
      intro hn
      rcases ih (by omega) with h | h
      · cases hf : okW l[n]
        · exact .inr ⟨n, by omega, h, hf⟩
        · refine .inl fun i hi h2 => ?_
          rcases Nat.lt_or_ge i n with h3 | h3
          · exact h i hi h3
          · have : i = n := by omega
            subst this
            exact hf
      · exact .inr h
  rcases key l.length (Nat.le_refl _) with h | h
  · exact .inl fun i hi => h i hi hi
  · exact .inr h
theorem all_okW (l : List Int) : l.all okW = true ↔ ∀ i (h : i < l.length), okW l[i] = true := by
  rw [List.all_eq_true]
  constructor
  · intro h i hi
    exact h _ (List.getElem_mem hi)
  · intro h x hx
    obtain ⟨i, hi, rfl⟩ := List.getElem_of_mem hx
    exact h i hi

set_option maxHeartbeats 4000000 in
theorem refShare_head (t : Int) (v : Value) (l : List Int) (w : World) (hv : IL v l w) (hz : l.length ≤ 1000000) (h : ¬ (rightI t = true ∧ 1 ≤ l.length ∧ l.length ≤ 16)) :
    Calls Tryd.prog 16 #[.int .i64 t, v] w fun e w' => e = .returned (.tuple #[.slice none 0 0, .int .i64 1]) ∧ w' = w := by
  obtain ⟨a, cap, rfl, hc, _⟩ := hv
  generalize l.length = n at *
  cases ht : rightI t
  · have c1 := Lib.hid (fun W => refRight_any t false ht W)
    clear h ht
    go_enter Tryd.func16, Tryd.ntmps16
    go_wp2_with fail
    refine (c1.out _).mono ?_
    rintro e w1 ⟨rfl, rfl⟩
    go_wp2
    go_ret2
    exact ⟨rfl, rfl⟩
  have c1 := Lib.hid (fun W => refRight_any t true ht W)
  by_cases h1 : n < 1
  · have d1 : decide ((n : Int) < 1) = true := by simp; omega
    clear h ht
    go_enter Tryd.func16, Tryd.ntmps16
    go_wp2_with fail
    refine (c1.out _).mono ?_
    rintro e w1 ⟨rfl, rfl⟩
    go_wp2
    go_ret2
    exact ⟨rfl, rfl⟩
  · have d1 : decide ((n : Int) < 1) = false := by simp; omega
    have d2 : decide ((16 : Int) < (n : Int)) = true := by
      rcases Nat.lt_or_ge 16 n with h2 | h2
      · simp; omega
      · exact absurd ⟨ht, by omega, h2⟩ h
    clear h ht
    go_enter Tryd.func16, Tryd.ntmps16
    go_wp2_with fail
    refine (c1.out _).mono ?_
    rintro e w1 ⟨rfl, rfl⟩
    go_wp2
    go_ret2
    exact ⟨rfl, rfl⟩

set_option maxHeartbeats 16000000 in
set_option maxRecDepth 100000 in
/-- A weight is out of range, or all are 0. -/
theorem refShare_weights (t : Int) (v : Value) (l : List Int) (w : World) (hv : IL v l w) (ht : rightI t = true) (h1 : 1 ≤ l.length) (h16 : l.length ≤ 16) (j : Nat) (hj : j ≤ l.length)
    (hg : ∀ i (h : i < l.length), i < j → okW l[i] = true) (hb : ∀ h : j < l.length, okW l[j] = false) (hs : j = l.length → sumN (wN l) l.length = 0) :
    Calls Tryd.prog 16 #[.int .i64 t, v] w fun e w' => e = .returned (.tuple #[.slice none 0 0, .int .i64 1]) ∧ w' = w := by
  obtain ⟨a, cap, rfl, hc, hcell⟩ := hv
  have c1 := Lib.hid (fun W => refRight_any t true ht W)
  obtain ⟨n, hn⟩ : ∃ n, l.length = n := ⟨_, rfl⟩
  have d1 : decide ((n : Int) < 1) = false := by simp; omega
  have d2 : decide ((16 : Int) < (n : Int)) = false := by simp; omega
  have HN := Lib.hid hn
  have HG := Lib.hid hg
  have HB := Lib.hid hb
  have HS := Lib.hid hs
  have HC := Lib.hid hcell
  rw [hn] at hc h1 h16 hj ⊢
  clear hg hb hs hcell hn ht
  go_enter Tryd.func16, Tryd.ntmps16
  go_wp2_with fail
  refine (c1.out _).mono ?_
  rintro e w1 ⟨rfl, rfl⟩
  clear c1
  go_wp2
  go_loopw [6, 7] (fun s i wr => ∃ k : Nat, k ≤ j ∧ i = .int .i64 (k : Int) ∧ s = .int .i64 ((sumN (wN l) k : Nat) : Int) ∧ wr = w1) (fun _ i _ => j - (intOf i).toNat)
  case atStart => exact ⟨0, Nat.zero_le _, rfl, rfl, rfl⟩
  case round =>
    obtain ⟨k, hk, rfl, rfl, rfl⟩ := hrel
    have hsk : RowKit.Hid (sumN (wN l) k ≤ k * 1000) := sumW_le l k fun i hi => (okW_at l i (by have := HN.out; omega) (HG.out i (by have := HN.out; omega) (by omega))).2
    by_cases hkn : k < n
    · have hkl : k < l.length := by have := HN.out; omega
      obtain ⟨g, o, rfl, hg, k1⟩ := HC.out k l[k] (List.getElem?_eq_getElem hkl)
      have i1 : (0 : Int) ≤ (k : Int) := by omega
      have i2 : (k : Int) < (n : Int) := by omega
      by_cases hlt : k < j
      · have hx := okW_at l k hkl (HG.out k hkl hlt)
        have HV : RowKit.Hid (sumN (wN l) (k + 1) = sumN (wN l) k + wN l k) := rfl
        rw [hx.1] at k1
        have hx2 := hx.2
        clear hx
        have hsb : sumN (wN l) k ≤ 16000 := by have := hsk.out; omega
        generalize sumN (wN l) k = s at *
        generalize wN l k = x at *
        have t1 : decide ((x : Int) < 0) = false := by simp
        have t2 : decide ((1000 : Int) < (x : Int)) = false := by simp; omega
        go_wp2
        go_roundw
        case rel => exact ⟨k + 1, by omega, by go_num, by rw [HV.out]; go_num, trivial⟩
        case measure => simp [intOf]; omega
      · obtain rfl : k = j := by omega
        have hx := HB.out hkl
        unfold okW at hx
        generalize l[k] = x at *
        generalize sumN (wN l) k = s at *
        by_cases h0 : x < 0
        · have t1 : decide (x < 0) = true := decide_eq_true h0
          clear hx
          go_wp2
          go_ret2
          exact ⟨rfl, rfl⟩
        · have t1 : decide (x < 0) = false := decide_eq_false h0
          have t2 : decide (1000 < x) = true := by
            rw [decide_eq_true (show 0 ≤ x by omega), Bool.true_and] at hx
            have := of_decide_eq_false hx
            exact decide_eq_true (by omega)
          clear hx
          go_wp2
          go_ret2
          exact ⟨rfl, rfl⟩
    · obtain rfl : k = n := by omega
      obtain rfl : j = k := by omega
      have h0 := HS.out HN.out.symm
      rw [HN.out] at h0
      rw [h0]
      go_wp2
      go_ret2
      exact ⟨rfl, rfl⟩
end Go.Proofs.YtbemenflkebpnaaDoor
