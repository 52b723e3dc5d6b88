/- libraryref07: digit, Code, Tag, in. -/
import Derived.Test.YtjajihemcaihmaaGreatDoorQL
namespace Go.Proofs.YtjajihemcaihmaaGreatDoor
open Go.RowKit Go.PlainAid

set_option maxHeartbeats 4000000 in
theorem refdigit_any (x : UInt8) (b : Bool) (hb : digB x = b) (w : World) :
    Calls Tryz.prog 36 #[.int .u8 (x.toNat : Int)] w fun e w' => e = .returned (.bool b) ∧ w' = w := by
  unfold digB at hb
  by_cases h1 : 48 ≤ x.toNat
  · have t1 : decide ((48 : Int) ≤ (x.toNat : Int)) = true := decide_eq_true (by omega)
    rw [decide_eq_true h1, Bool.true_and] at hb
    have t2 : decide ((x.toNat : Int) ≤ 57) = b := by rw [← hb, decide_eq_decide]; omega
    clear hb h1
    generalize x.toNat = n at *
    go_enter Tryz.func36, Tryz.ntmps36
    go_wp2
    go_ret
    exact ⟨rfl, rfl⟩
  · have t1 : decide ((48 : Int) ≤ (x.toNat : Int)) = false := decide_eq_false (by omega)
    rw [decide_eq_false h1, Bool.false_and] at hb
    subst hb
    clear h1
    generalize x.toNat = n at *
    go_enter Tryz.func36, Tryz.ntmps36
    go_wp2
    go_ret
    exact ⟨rfl, rfl⟩

set_option maxHeartbeats 4000000 in
theorem refCode_any (x : UInt8) (b : Bool) (hb : codeB x = b) (w : World) :
    Calls Tryz.prog 54 #[.int .u8 (x.toNat : Int)] w fun e w' => e = .returned (.bool b) ∧ w' = w := by
  unfold codeB at hb
  cases hd : digB x
  · have c1 := Lib.hid (fun W => refdigit_any x false hd W)
    rw [hd, Bool.false_or] at hb
    clear hd
    by_cases h1 : 97 ≤ x.toNat
    · have t1 : decide ((97 : Int) ≤ (x.toNat : Int)) = true := decide_eq_true (by omega)
      rw [decide_eq_true h1, Bool.true_and] at hb
      have t2 : decide ((x.toNat : Int) ≤ 122) = b := by rw [← hb, decide_eq_decide]; omega
      clear hb h1
      generalize x.toNat = n at *
      go_enter Tryz.func54, Tryz.ntmps54
      go_wp2_with fail
      refine (c1.out _).mono ?_
      rintro e w1 ⟨rfl, rfl⟩
      go_wp2
      go_ret
      exact ⟨rfl, rfl⟩
    · have t1 : decide ((97 : Int) ≤ (x.toNat : Int)) = false := decide_eq_false (by omega)
      rw [decide_eq_false h1, Bool.false_and] at hb
      subst hb
      clear h1
      generalize x.toNat = n at *
      go_enter Tryz.func54, Tryz.ntmps54
      go_wp2_with fail
      refine (c1.out _).mono ?_
      rintro e w1 ⟨rfl, rfl⟩
      go_wp2
      go_ret
      exact ⟨rfl, rfl⟩
  · have c1 := Lib.hid (fun W => refdigit_any x true hd W)
    rw [hd, Bool.true_or] at hb
    subst hb
    clear hd
    generalize x.toNat = n at *
    go_enter Tryz.func54, Tryz.ntmps54
    go_wp2_with fail
    refine (c1.out _).mono ?_
    rintro e w1 ⟨rfl, rfl⟩
    go_wp2
    go_ret
    exact ⟨rfl, rfl⟩

end Go.Proofs.YtjajihemcaihmaaGreatDoor
