/- Merged: R07C, R07D, R07E, Iter. -/
import Derived.Test.YtfjfpefpdlecbaaGreatDoorQ03
import Derived.RegionTactic
import Derived.BigRegion
import Derived.Test.YtfjfpefpdlecbaaGreatDoorQ01
import Derived.Test.YtfjfpefpdlecbaaGreatDoorProg
import Derived.Lib.OthersKept
import Derived.Lib.Hide
import Derived.WalkKit
import Derived.WalkLawsBesides
namespace Go.Proofs.YtfjfpefpdlecbaaGreatDoor

section
open Go.RowKit Go.PlainAid
set_option maxHeartbeats 8000000 in
theorem refTag_any (l : List UInt8) (b : Bool) (hb : tagB l = b) (w : World) :
    Calls Tryz.prog 32 #[.string (S l)] w fun e w' => e = .returned (.bool b) ∧ w' = w := by
  have hbt := get_bt (S l)
  obtain ⟨n, hn⟩ : ∃ n, l.length = n := ⟨_, rfl⟩
  have hsz : (S l).size = n := by rw [S_size, hn]
  unfold tagB at hb
  by_cases h3 : n = 3
  · rw [hn, decide_eq_true h3, Bool.true_and] at hb
    have hs3 : (S l).size = 3 := by rw [hsz, h3]
    have q0 := bt_S l 0
    have q1 := bt_S l 1
    have q2 := bt_S l 2
    cases h0 : digB (l.getD 0 0)
    · have c0 := Lib.hid (fun W => refdigit_any (l.getD 0 0) false h0 W)
      rw [h0, Bool.false_and, Bool.false_and, Bool.false_and] at hb
      subst hb
      rw [← q0] at c0
      clear q0 q1 q2 h0 hn h3 hsz
      generalize S l = s at *
      go_enter Tryz.func32, Tryz.ntmps32
      go_wp2_with fail
      refine (c0.out _).mono ?_
      rintro e w1 ⟨rfl, rfl⟩
      go_wp2
      go_ret
      exact ⟨rfl, rfl⟩
    have c0 := Lib.hid (fun W => refdigit_any (l.getD 0 0) true h0 W)
    rw [h0, Bool.true_and] at hb
    rw [← q0] at c0
    cases h1 : digB (l.getD 1 0)
    · have c1 := Lib.hid (fun W => refdigit_any (l.getD 1 0) false h1 W)
      rw [h1, Bool.false_and, Bool.false_and] at hb
      subst hb
      rw [← q1] at c1
      clear q0 q1 q2 h0 h1 hn h3 hsz
      generalize S l = s at *
      go_enter Tryz.func32, Tryz.ntmps32
      go_wp2_with fail
      refine (c0.out _).mono ?_
      rintro e w1 ⟨rfl, rfl⟩
      go_wp2_with fail
      refine (c1.out _).mono ?_
      rintro e w1 ⟨rfl, rfl⟩
      go_wp2
      go_ret
      exact ⟨rfl, rfl⟩
    have c1 := Lib.hid (fun W => refdigit_any (l.getD 1 0) true h1 W)
    rw [h1, Bool.true_and] at hb
    rw [← q1] at c1
    cases h2 : digB (l.getD 2 0)
    · have c2 := Lib.hid (fun W => refdigit_any (l.getD 2 0) false h2 W)
      rw [h2, Bool.false_and] at hb
      subst hb
      rw [← q2] at c2
      clear q0 q1 q2 h0 h1 h2 hn h3 hsz
      generalize S l = s at *
      go_enter Tryz.func32, Tryz.ntmps32
      go_wp2_with fail
      refine (c0.out _).mono ?_
      rintro e w1 ⟨rfl, rfl⟩
      go_wp2_with fail
      refine (c1.out _).mono ?_
      rintro e w1 ⟨rfl, rfl⟩
      go_wp2_with fail
      refine (c2.out _).mono ?_
      rintro e w1 ⟨rfl, rfl⟩
      go_wp2
      go_ret
      exact ⟨rfl, rfl⟩
    have c2 := Lib.hid (fun W => refdigit_any (l.getD 2 0) true h2 W)
    rw [h2, Bool.true_and] at hb
    rw [← q2] at c2
    have hl := less_three l (by omega) (((digB_iff _).1 h0).1) (((digB_iff _).1 h1).1) (((digB_iff _).1 h2).1)
    have hle : Op.bytesLess (S l).toList [48, 49, 48] = !b := by
      rw [ByteArray.toList_eq]
      show Op.bytesLess l [48, 49, 48] = !b
      rw [hl, ← hb, Bool.not_not]
    clear q0 q1 q2 h0 h1 h2 hn h3 hsz hl hb
    generalize S l = s at *
    go_enter Tryz.func32, Tryz.ntmps32
    go_wp2_with fail
    refine (c0.out _).mono ?_
    rintro e w1 ⟨rfl, rfl⟩
    go_wp2_with fail
    refine (c1.out _).mono ?_
    rintro e w1 ⟨rfl, rfl⟩
    go_wp2_with fail
    refine (c2.out _).mono ?_
    rintro e w1 ⟨rfl, rfl⟩
    have hge : (binOp BinOp.geq 9 (.string s) (.string ⟨#[48, 49, 48]⟩)).run Tryz.prog w1 = .ok (.bool b) w1 := by
      have e : (⟨#[48, 49, 48]⟩ : ByteArray).toList = [48, 49, 48] := by rw [ByteArray.toList_eq]
      simp [binOp, Op.stringOp, e, hle]
    go_wp2
    go_ret
    exact ⟨rfl, rfl⟩
  · rw [hn, decide_eq_false h3] at hb
    simp only [Bool.false_and] at hb
    subst hb
    have t1 : ((n : Int) == 3) = false := by simp; omega
    clear hn h3
    generalize S l = s at *
    go_enter Tryz.func32, Tryz.ntmps32
    go_wp2
    go_ret
    exact ⟨rfl, rfl⟩
end

section
open Go.RowKit Go.PlainAid
/-- A row of texts of the call's own, nil while it is empty. -/
theorem BL.of_row {B : Nat} {v : Value} {L : List (List UInt8)} {w : World} (h : w.ownsRow B 9 1 v L.length (L.map strB)) : BL v L w := by
  by_cases hn : v = .slice none 0 0
  · subst hn
    rcases h.2 with ⟨_, h0⟩ | ⟨g, cap, cur, e, _⟩
    · have : L = [] := List.eq_nil_of_length_eq_zero h0
      subst this
      exact ⟨none, 0, rfl, Nat.le_refl _, Nat.zero_le _, fun _ => rfl, fun i hi => by cases hi⟩
    · cases e
  · exact SR.bl ⟨h, hn⟩
end

section
open Go.RowKit Go.PlainAid
theorem S_eq (a b : List UInt8) : ((S a).toList == (S b).toList) = decide (a = b) := by
  rw [ByteArray.toList_eq, ByteArray.toList_eq]
  show (a == b) = _
  by_cases h : a = b
  · simp [h]
  · simp [h]
def sameB (f g : Fld) : Bool := decide (f.tag = g.tag) && decide (f.ind = g.ind) && decide (f.auth = g.auth) && decide (f.subs = g.subs)
theorem subs_ext (A B : List Sub) (hl : A.length = B.length) (h : ∀ i, i < A.length → A.getD i sub0 = B.getD i sub0) : A = B := by
  refine List.ext_getElem hl fun i h1 h2 => ?_
  have := h i h1
  rwa [List.getD_eq_getElem?_getD, List.getD_eq_getElem?_getD, List.getElem?_eq_getElem h1, List.getElem?_eq_getElem h2] at this
end

section
open Go.RowKit
theorem next_T {P : Program} (w : World) (k : Nat) (cs : List Nat) (h : OKs cs) (j : Nat) (hk : w.heap[k]? = some (.stringIter (T cs) (off cs j))) (hj : j < cs.length) (ty : TypeId) :
    (Instr.next (.pointer (some ⟨k, 0, none⟩)) true ty).run P w = .ok (.tuple #[.bool true, .int .i64 (off cs j), .int .i32 (cs[j] : Nat)]) (w.iterAt k (T cs) (off cs (j + 1))) := by
  have := Lib.run_next_any_at (P := P) w k (T cs) (off cs j) ty hk (off_lt cs j hj)
  rw [decode_T cs h j hj] at this
  rw [this, off_succ cs j hj]

theorem end_T {P : Program} (w : World) (k : Nat) (cs : List Nat) (j : Nat) (hk : w.heap[k]? = some (.stringIter (T cs) (off cs j))) (hj : j = cs.length) (ty : TypeId) :
    (Instr.next (.pointer (some ⟨k, 0, none⟩)) true ty).run P w = .ok (.tuple #[.bool false]) w := by
  refine Lib.run_next_end_at (P := P) w k (T cs) (off cs j) ty hk ?_
  rw [hj, T_off]; omega

theorem pos_T (w : World) (k : Nat) (s : ByteArray) (p : Nat) (hk : w.heap[k]? = some (.stringIter s p)) : w.iterPos k = p := by
  simp [World.iterPos, hk]

theorem okc_le {c : Nat} (h : okc c) : c ≤ 65535 := by unfold okc at h; omega
end

end Go.Proofs.YtfjfpefpdlecbaaGreatDoor
