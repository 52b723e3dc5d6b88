/- Merged: FA07, FB07, FC07. -/
import Derived.Test.YtnfallkeicehiaaGreatDoorQ02
import Derived.Test.YtnfallkeicehiaaGreatDoorQ19
namespace Go.Proofs.YtnfallkeicehiaaGreatDoor

section
open Go.RowKit Go.PlainAid
def letB (x : UInt8) : Bool := decide (97 ≤ x.toNat) && decide (x.toNat ≤ 122)
theorem codeB_eq (x : UInt8) : codeB x = (digB x || letB x) := rfl

set_option maxHeartbeats 4000000 in
theorem fdigit_any (x : UInt8) (b : Bool) (hb : digB x = b) (w : World) :
    Calls Tryz.prog 69 #[.int .u8 (x.toNat : Int)] w fun e w' => e = .returned (.bool b) ∧ w' = w := by
  unfold digB at hb
  by_cases h1 : 48 ≤ x.toNat
  · have t1 : decide ((48 : Int) ≤ (x.toNat : Int)) = true := decide_eq_true (by omega)
    rw [decide_eq_true h1, Bool.true_and] at hb
    have t2 : decide ((x.toNat : Int) ≤ 57) = b := by rw [← hb, decide_eq_decide]; omega
    clear hb h1
    generalize x.toNat = n at *
    go_enter Tryz.func69, Tryz.ntmps69
    go_wp2
    go_ret
    exact ⟨rfl, rfl⟩
  · have t1 : decide ((48 : Int) ≤ (x.toNat : Int)) = false := decide_eq_false (by omega)
    rw [decide_eq_false h1, Bool.false_and] at hb
    subst hb
    clear h1
    generalize x.toNat = n at *
    go_enter Tryz.func69, Tryz.ntmps69
    go_wp2
    go_ret
    exact ⟨rfl, rfl⟩

set_option maxHeartbeats 4000000 in
theorem fletter_any (x : UInt8) (b : Bool) (hb : letB x = b) (w : World) :
    Calls Tryz.prog 70 #[.int .u8 (x.toNat : Int)] w fun e w' => e = .returned (.bool b) ∧ w' = w := by
  unfold letB at hb
  by_cases h1 : 97 ≤ x.toNat
  · have t1 : decide ((97 : Int) ≤ (x.toNat : Int)) = true := decide_eq_true (by omega)
    rw [decide_eq_true h1, Bool.true_and] at hb
    have t2 : decide ((x.toNat : Int) ≤ 122) = b := by rw [← hb, decide_eq_decide]; omega
    clear hb h1
    generalize x.toNat = n at *
    go_enter Tryz.func70, Tryz.ntmps70
    go_wp2
    go_ret
    exact ⟨rfl, rfl⟩
  · have t1 : decide ((97 : Int) ≤ (x.toNat : Int)) = false := decide_eq_false (by omega)
    rw [decide_eq_false h1, Bool.false_and] at hb
    subst hb
    clear h1
    generalize x.toNat = n at *
    go_enter Tryz.func70, Tryz.ntmps70
    go_wp2
    go_ret
    exact ⟨rfl, rfl⟩

theorem all_iff (l : List UInt8) : l.all digB = true ↔ ∀ i, i < l.length → digB (l.getD i 0) = true := by
  rw [List.all_eq_true]
  constructor
  · intro h i hi
    rw [List.getD_eq_getElem?_getD, List.getElem?_eq_getElem hi]
    exact h _ (List.getElem_mem hi)
  · intro h x hx
    obtain ⟨i, hi, rfl⟩ := List.getElem_of_mem hx
    have := h i hi
    rwa [List.getD_eq_getElem?_getD, List.getElem?_eq_getElem hi] at this

set_option maxHeartbeats 8000000 in
theorem fdigits_any (l : List UInt8) (hz : l.length ≤ 1000000000) (b : Bool) (hb : l.all digB = b) (w : World) :
    Calls Tryz.prog 52 #[.string (S l)] w fun e w' => e = .returned (.bool b) ∧ w' = w := by
  obtain ⟨n, hn⟩ : ∃ n, l.length = n := ⟨_, rfl⟩
  have hsz : (S l).size = n := by rw [S_size, hn]
  obtain ⟨j, hj, hg, hbad⟩ : ∃ j, j ≤ n ∧ (∀ i, i < j → digB (l.getD i 0) = true) ∧ (j < n → digB (l.getD j 0) = false) := by
    rcases first_bad (fun i => digB (l.getD i 0)) n with h | ⟨j, hj, h1, h2⟩
    · exact ⟨n, Nat.le_refl _, h, fun h => by omega⟩
    · exact ⟨j, by omega, h1, fun _ => h2⟩
  have hbb : b = decide (j = n) := by
    rw [← hb]
    by_cases h : j < n
    · rw [decide_eq_false (by omega)]
      cases hx : l.all digB with
      | false => rfl
      | true =>
        have := (all_iff l).1 hx j (by omega)
        rw [hbad h] at this
        cases this
    · rw [decide_eq_true (by omega)]
      rw [all_iff]
      intro i hi
      exact hg i (by omega)
  have hbt := get_bt (S l)
  have HG := Lib.hid hg
  have HB := Lib.hid hbad
  have HBB := Lib.hid hbb
  have HBS := Lib.hid (fun i => bt_S l i)
  have cD := Lib.hid (fun x b hb W => fdigit_any x b hb W)
  rw [hn] at hz
  clear hg hbad hbb hn hb
  generalize S l = s at *
  go_enter Tryz.func52, Tryz.ntmps52
  go_wp2
  go_loopw [6] (fun i wr => ∃ k : Nat, k ≤ j ∧ i = .int .i64 (k : Int) ∧ w = wr) (fun i _ => j - (intOf i).toNat)
  case atStart => exact ⟨0, Nat.zero_le _, rfl, rfl⟩
  case round =>
    obtain ⟨k, hk, rfl, rfl⟩ := hrel
    by_cases hkn : k < n
    · have hki : (k : Int) < (n : Int) := by omega
      have hk0 : (0 : Int) ≤ (k : Int) := by omega
      have hbk := HBS.out k
      by_cases hlt : k < j
      · have hc := cD.out _ true (HG.out k hlt) w
        rw [← hbk] at hc
        clear hbk
        go_wp2_with fail
        refine hc.mono ?_
        rintro e w1 ⟨rfl, rfl⟩
        go_wp2
        go_roundw
        case rel => exact ⟨k + 1, by omega, by go_num, trivial⟩
        case measure => simp [intOf]; omega
      · obtain rfl : k = j := by omega
        have hc := cD.out _ false (HB.out hkn) w
        rw [← hbk] at hc
        clear hbk
        obtain rfl : b = false := by rw [HBB.out, decide_eq_false (by omega)]
        go_wp2_with fail
        refine hc.mono ?_
        rintro e w1 ⟨rfl, rfl⟩
        go_wp2
        go_ret
        exact ⟨rfl, rfl⟩
    · obtain rfl : k = n := by omega
      obtain rfl : b = true := by rw [HBB.out, decide_eq_true (by omega)]
      go_wp2
      go_ret
      exact ⟨rfl, rfl⟩
end

section
open Go.RowKit Go.PlainAid
/-- A subfield's value. -/
def SV (s : Sub) : Value := .agg #[.int .u8 (s.1.toNat : Int), .string (S s.2)]
end

section
open Go.RowKit Go.PlainAid
/-- What yields a slice of subfields, a function value, and so on. -/
def SP.ql (v : Value) (L : List Sub) : SP := ⟨fun x w => x = v ∧ QL v L w, fun _ _ _ h b => ⟨h.1, h.2.after b⟩⟩
/-- The first place of a code, or none. -/
theorem first_code (L : List Sub) (c : UInt8) : (∀ j, j < L.length → (L.getD j sub0).1 ≠ c) ∨ ∃ k, k < L.length ∧ (∀ j, j < k → (L.getD j sub0).1 ≠ c) ∧ (L.getD k sub0).1 = c := by
  rcases first_bad (fun i => !decide ((L.getD i sub0).1 = c)) L.length with h | ⟨j, hj, h1, h2⟩
  · exact .inl fun j hj => by simpa using h j hj
  · exact .inr ⟨j, hj, fun i hi => by simpa using h1 i hi, by simpa using h2⟩
end

end Go.Proofs.YtnfallkeicehiaaGreatDoor
