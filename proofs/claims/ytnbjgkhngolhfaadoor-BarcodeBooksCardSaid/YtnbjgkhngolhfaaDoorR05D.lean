/- libraryref05: ended, Isbn, Issn. -/
import Derived.Test.YtnbjgkhngolhfaaDoorR05B
import Derived.Test.YtnbjgkhngolhfaaDoorR05C
namespace Go.Proofs.YtnbjgkhngolhfaaDoor
open Go.RowKit Go.PlainAid

set_option maxHeartbeats 8000000 in
theorem refended_any (l : List UInt8) (hz : l.length ≤ 1000000) (b : Bool) (hb : endedB l = b) (w : World) :
    Calls Tryd.prog 40 #[.string (S l)] w fun e w' => e = .returned (.bool b) ∧ w' = w := by
  have hbt := get_bt (S l)
  rcases Nat.eq_zero_or_pos l.length with h0 | h0
  · have hl : l = [] := List.eq_nil_of_length_eq_zero h0
    subst hl
    obtain rfl : b = false := hb.symm
    have hsz : (S []).size = 0 := rfl
    generalize S [] = s at *
    go_enter Tryd.func40, Tryd.ntmps40
    go_wp2
    go_ret
    exact ⟨rfl, rfl⟩
  · obtain ⟨m, hm⟩ : ∃ m, l.length = m + 1 := ⟨l.length - 1, by omega⟩
    have hsz : (S l).size = m + 1 := by rw [S_size, hm]
    have e1 : (S l).extract 0 m = S (l.take m) := by rw [S_extract]; rfl
    have e2 : (S l).extract m (m + 1) = S [l.getD m 0] := by
      rw [S_extract, ← hm, List.take_length, List.drop_eq_getElem_cons (by omega), List.drop_of_length_le (by omega), List.getD_eq_getElem?_getD, List.getElem?_eq_getElem (by omega)]
      rfl
    have hv0 := bt_S l m
    unfold endedB at hb
    rw [hm, show m + 1 - 1 = m by omega, decide_eq_true (show 1 ≤ m + 1 by omega), Bool.true_and] at hb
    have e0 : ((m + 1 : Nat) : Int) - 1 = (m : Int) := by omega
    have i0 : (0 : Int) ≤ (m : Int) := by omega
    have i1 : (m : Int) ≤ ((m + 1 : Nat) : Int) := by omega
    have i2 : (m : Int) < ((m + 1 : Nat) : Int) := by omega
    have n1 : m ≤ m + 1 := by omega
    have n2 : m < m + 1 := by omega
    have d0 : decide ((0 : Int) ≤ (m : Int)) = true := decide_eq_true i0
    cases hd : (l.take m).all digB
    · have c1 := Lib.hid (fun W => refDigs_any (l.take m) (by rw [List.length_take]; omega) false hd W)
      rw [← e1] at c1
      rw [hd, Bool.false_and] at hb
      subst hb
      obtain ⟨ex, hex⟩ : ∃ ex, (S l).extract 0 m = ex := ⟨_, rfl⟩
      rw [hex] at c1
      clear e1 e2 hd hv0
      generalize S l = s at *
      go_enter Tryd.func40, Tryd.ntmps40
      go_wp2_with fail
      refine (c1.out _).mono ?_
      rintro e w1 ⟨rfl, rfl⟩
      go_wp2
      go_ret
      exact ⟨rfl, rfl⟩
    · have c1 := Lib.hid (fun W => refDigs_any (l.take m) (by rw [List.length_take]; omega) true hd W)
      rw [← e1] at c1
      rw [hd, Bool.true_and] at hb
      obtain ⟨db, hdb⟩ : ∃ db, digB (l.getD m 0) = db := ⟨_, rfl⟩
      have c2 := Lib.hid (fun W => refDigs_any [l.getD m 0] (by simp) db (by simpa using hdb) W)
      rw [← e2] at c2
      rw [hdb] at hb
      have hx : (bt (S l) m == 88) = decide (l.getD m 0 = 88) := by
        rw [hv0]
        by_cases h : l.getD m 0 = 88
        · rw [h]; rfl
        · rw [decide_eq_false h]
          have : (l.getD m 0).toNat ≠ 88 := fun h2 => h (UInt8.toNat_inj.1 h2)
          exact beq_eq_false_iff_ne.2 (fun h2 => this (by omega))
      obtain ⟨xb, hxb⟩ : ∃ xb, decide (l.getD m 0 = 88) = xb := ⟨_, rfl⟩
      rw [hxb] at hb hx
      obtain ⟨ex, hex⟩ : ∃ ex, (S l).extract 0 m = ex := ⟨_, rfl⟩
      obtain ⟨ey, hey⟩ : ∃ ey, (S l).extract m (m + 1) = ey := ⟨_, rfl⟩
      rw [hex] at c1
      rw [hey] at c2
      clear e1 e2 hd hv0 hdb hxb
      generalize S l = s at *
      subst hb
      cases db <;> cases xb
      all_goals
        go_enter Tryd.func40, Tryd.ntmps40
        go_wp2_with fail
        refine (c1.out _).mono ?_
        rintro e w1 ⟨rfl, rfl⟩
        go_wp2_with fail
        refine (c2.out _).mono ?_
        rintro e w1 ⟨rfl, rfl⟩
        go_wp2
        go_ret
        exact ⟨rfl, rfl⟩

end Go.Proofs.YtnbjgkhngolhfaaDoor
