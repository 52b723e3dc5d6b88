/- libraryref07: Tag, All. -/
import Derived.Test.YtjajihemcaihmaaGreatDoorR07B
import Derived.Test.YtjajihemcaihmaaGreatDoorBL
namespace Go.Proofs.YtjajihemcaihmaaGreatDoor
open Go.RowKit Go.PlainAid

set_option maxHeartbeats 8000000 in
theorem refTag_any (l : List UInt8) (b : Bool) (hb : tagB l = b) (w : World) :
    Calls Tryz.prog 53 #[.string (S l)] w fun e w' => e = .returned (.bool b) ∧ w' = w := by
  have hbt := get_bt (S l)
  obtain ⟨n, hn⟩ : ∃ n, l.length = n := ⟨_, rfl⟩
  have hsz : (S l).size = n := by rw [S_size, hn]
  unfold tagB at hb
  by_cases h3 : n = 3
  · rw [hn, decide_eq_true h3, Bool.true_and] at hb
    have hs3 : (S l).size = 3 := by rw [hsz, h3]
    have q0 := bt_S l 0
    have q1 := bt_S l 1
    have q2 := bt_S l 2
    cases h0 : digB (l.getD 0 0)
    · have c0 := Lib.hid (fun W => refdigit_any (l.getD 0 0) false h0 W)
      rw [h0, Bool.false_and, Bool.false_and, Bool.false_and] at hb
      subst hb
      rw [← q0] at c0
      clear q0 q1 q2 h0 hn h3 hsz
      generalize S l = s at *
      go_enter Tryz.func53, Tryz.ntmps53
      go_wp2_with fail
      refine (c0.out _).mono ?_
      rintro e w1 ⟨rfl, rfl⟩
      go_wp2
      go_ret
      exact ⟨rfl, rfl⟩
    have c0 := Lib.hid (fun W => refdigit_any (l.getD 0 0) true h0 W)
    rw [h0, Bool.true_and] at hb
    rw [← q0] at c0
    cases h1 : digB (l.getD 1 0)
    · have c1 := Lib.hid (fun W => refdigit_any (l.getD 1 0) false h1 W)
      rw [h1, Bool.false_and, Bool.false_and] at hb
      subst hb
      rw [← q1] at c1
      clear q0 q1 q2 h0 h1 hn h3 hsz
      generalize S l = s at *
      go_enter Tryz.func53, Tryz.ntmps53
      go_wp2_with fail
      refine (c0.out _).mono ?_
      rintro e w1 ⟨rfl, rfl⟩
      go_wp2_with fail
      refine (c1.out _).mono ?_
      rintro e w1 ⟨rfl, rfl⟩
      go_wp2
      go_ret
      exact ⟨rfl, rfl⟩
    have c1 := Lib.hid (fun W => refdigit_any (l.getD 1 0) true h1 W)
    rw [h1, Bool.true_and] at hb
    rw [← q1] at c1
    cases h2 : digB (l.getD 2 0)
    · have c2 := Lib.hid (fun W => refdigit_any (l.getD 2 0) false h2 W)
      rw [h2, Bool.false_and] at hb
      subst hb
      rw [← q2] at c2
      clear q0 q1 q2 h0 h1 h2 hn h3 hsz
      generalize S l = s at *
      go_enter Tryz.func53, Tryz.ntmps53
      go_wp2_with fail
      refine (c0.out _).mono ?_
      rintro e w1 ⟨rfl, rfl⟩
      go_wp2_with fail
      refine (c1.out _).mono ?_
      rintro e w1 ⟨rfl, rfl⟩
      go_wp2_with fail
      refine (c2.out _).mono ?_
      rintro e w1 ⟨rfl, rfl⟩
      go_wp2
      go_ret
      exact ⟨rfl, rfl⟩
    have c2 := Lib.hid (fun W => refdigit_any (l.getD 2 0) true h2 W)
    rw [h2, Bool.true_and] at hb
    rw [← q2] at c2
    have hl := less_three l (by omega) (((digB_iff _).1 h0).1) (((digB_iff _).1 h1).1) (((digB_iff _).1 h2).1)
    have hle : Op.bytesLess (S l).toList [48, 49, 48] = !b := by
      rw [ByteArray.toList_eq]
      show Op.bytesLess l [48, 49, 48] = !b
      rw [hl, ← hb, Bool.not_not]
    clear q0 q1 q2 h0 h1 h2 hn h3 hsz hl hb
    generalize S l = s at *
    go_enter Tryz.func53, Tryz.ntmps53
    go_wp2_with fail
    refine (c0.out _).mono ?_
    rintro e w1 ⟨rfl, rfl⟩
    go_wp2_with fail
    refine (c1.out _).mono ?_
    rintro e w1 ⟨rfl, rfl⟩
    go_wp2_with fail
    refine (c2.out _).mono ?_
    rintro e w1 ⟨rfl, rfl⟩
    have hge : (binOp BinOp.geq 9 (.string s) (.string ⟨#[48, 49, 48]⟩)).run Tryz.prog w1 = .ok (.bool b) w1 := by
      have e : (⟨#[48, 49, 48]⟩ : ByteArray).toList = [48, 49, 48] := by rw [ByteArray.toList_eq]
      simp [binOp, Op.stringOp, e, hle]
    go_wp2
    go_ret
    exact ⟨rfl, rfl⟩
  · rw [hn, decide_eq_false h3] at hb
    simp only [Bool.false_and] at hb
    subst hb
    have t1 : ((n : Int) == 3) = false := by simp; omega
    clear hn h3
    generalize S l = s at *
    go_enter Tryz.func53, Tryz.ntmps53
    go_wp2
    go_ret
    exact ⟨rfl, rfl⟩
end Go.Proofs.YtjajihemcaihmaaGreatDoor
