/- libraryref05: Isbn. -/
import Derived.Test.YtnbjgkhngolhfaaDoorR05E
namespace Go.Proofs.YtnbjgkhngolhfaaDoor
open Go.RowKit Go.PlainAid

theorem comp_form (a : Nat) (ha : a ≤ 1000000000) : Int.tmod (a : Int) 10 = ((a % 10 : Nat) : Int) ∧ (a : Int) % 10 = ((a % 10 : Nat) : Int) ∧ Int.tmod (10 - ((a % 10 : Nat) : Int)) 10 = ((comp a : Nat) : Int) ∧ (10 - ((a % 10 : Nat) : Int)) % 10 = ((comp a : Nat) : Int) ∧ a % 10 ≤ 9 := by
  unfold comp
  refine ⟨?_, by omega, ?_, by omega, by omega⟩
  · rw [Int.tmod_eq_emod_of_nonneg (by omega)]; omega
  · rw [Int.tmod_eq_emod_of_nonneg (by omega)]; omega

set_option maxHeartbeats 16000000 in
set_option maxRecDepth 100000 in
theorem refIsbn_13 (l : List UInt8) (hz : l.length ≤ 1000000) (t : List UInt8) (ht : removed l = t) (h13 : t.length = 13) (r : List UInt8) (er : Int) (hx : isbnT t = (r, er)) (w : World) :
    Calls Tryd.prog 20 #[.string (S l)] w fun e w' => e = .returned (.tuple #[.string (S r), .int .i64 er]) ∧ Below w.heap.size w w' := by
  have c0 := Lib.hid (fun W => refRemoved_any l hz W)
  rw [ht] at c0
  have hu : (S t).size = 13 := by rw [S_size, h13]
  unfold isbnT at hx
  cases hd : t.all digB
  · have c1 := Lib.hid (fun W => refDigs_any t (by omega) false hd W)
    rw [if_neg (fun h => by rw [hd] at h; cases h.2.1), if_neg (fun h => by omega)] at hx
    simp only [Prod.mk.injEq] at hx
    obtain ⟨rfl, rfl⟩ := hx
    rw [show S [] = (⟨#[]⟩ : ByteArray) from rfl]
    clear hd ht
    generalize S t = u at *
    generalize S l = s at *
    go_enter Tryd.func20, Tryd.ntmps20
    go_wp2_with fail
    refine (c0.out _).mono ?_
    rintro e w1 ⟨rfl, b1⟩
    go_wp2_with fail
    refine (c1.out _).mono ?_
    rintro e w2 ⟨rfl, rfl⟩
    go_wp2
    go_ret2
    exact ⟨rfl, b1⟩
  · have c1 := Lib.hid (fun W => refDigs_any t (by omega) true hd W)
    have c2 := Lib.hid (fun W => refalternating_any t (by omega) hd W)
    have hal := altS_le t (by omega)
    have f1 : (S t).extract 0 3 = S (t.take 3) := by rw [S_extract]; rfl
    have p8 : ((S (t.take 3)).toList == (⟨#[57, 55, 56]⟩ : ByteArray).toList) = decide (t.take 3 = [57, 55, 56]) := S_eq (t.take 3) [57, 55, 56]
    have p9 : ((S (t.take 3)).toList == (⟨#[57, 55, 57]⟩ : ByteArray).toList) = decide (t.take 3 = [57, 55, 57]) := S_eq (t.take 3) [57, 55, 57]
    have l8 : (⟨#[57, 55, 56]⟩ : ByteArray).toList = [57, 55, 56] := by rw [ByteArray.toList_eq]
    have l9 : (⟨#[57, 55, 57]⟩ : ByteArray).toList = [57, 55, 57] := by rw [ByteArray.toList_eq]
    rw [l8] at p8
    rw [l9] at p9
    obtain ⟨a, ha⟩ : ∃ a, altS t = a := ⟨_, rfl⟩
    rw [ha] at hx c2 hal
    obtain ⟨m1, m2, _, _, m5⟩ := comp_form a hal
    by_cases h8 : t.take 3 = [57, 55, 56] ∨ t.take 3 = [57, 55, 57]
    · rw [if_pos ⟨h13, hd, h8⟩] at hx
      have hpp : ((S (t.take 3)).toList == [57, 55, 56]) = true ∨ ((S (t.take 3)).toList == [57, 55, 56]) = false ∧ ((S (t.take 3)).toList == [57, 55, 57]) = true := by
        rw [p8, p9]
        rcases h8 with h | h
        · exact .inl (decide_eq_true h)
        · exact .inr ⟨decide_eq_false (fun h2 => by rw [h] at h2; cases h2), decide_eq_true h⟩
      clear p8 p9
      by_cases h0 : a % 10 = 0
      · rw [if_pos h0] at hx
        simp only [Prod.mk.injEq] at hx
        obtain ⟨rfl, rfl⟩ := hx
        rw [h0] at m1 m2
        clear hd ha h8 h0
        generalize S (t.take 3) = ex at *
        generalize S t = u at *
        generalize S l = s at *
        rcases hpp with q1 | ⟨q1, q2⟩
        all_goals
          go_enter Tryd.func20, Tryd.ntmps20
          go_wp2_with fail
          refine (c0.out _).mono ?_
          rintro e w1 ⟨rfl, b1⟩
          go_wp2_with fail
          refine (c1.out _).mono ?_
          rintro e w2 ⟨rfl, rfl⟩
          go_wp2_with fail
          refine (c2.out _).mono ?_
          rintro e w2 ⟨rfl, rfl⟩
          go_wp2
          go_ret2
          exact ⟨rfl, b1⟩
      · rw [if_neg h0] at hx
        simp only [Prod.mk.injEq] at hx
        obtain ⟨rfl, rfl⟩ := hx
        have t5 : (((a % 10 : Nat) : Int) != 0) = true := by simp; omega
        rw [show S [] = (⟨#[]⟩ : ByteArray) from rfl]
        clear hd ha h8 h0
        generalize a % 10 = q at *
        generalize S (t.take 3) = ex at *
        generalize S t = u at *
        generalize S l = s at *
        rcases hpp with q1 | ⟨q1, q2⟩
        all_goals
          go_enter Tryd.func20, Tryd.ntmps20
          go_wp2_with fail
          refine (c0.out _).mono ?_
          rintro e w1 ⟨rfl, b1⟩
          go_wp2_with fail
          refine (c1.out _).mono ?_
          rintro e w2 ⟨rfl, rfl⟩
          go_wp2_with fail
          refine (c2.out _).mono ?_
          rintro e w2 ⟨rfl, rfl⟩
          go_wp2
          go_ret2
          exact ⟨rfl, b1⟩
    · have q1 : ((S (t.take 3)).toList == [57, 55, 56]) = false := by rw [p8]; exact decide_eq_false (fun h => h8 (.inl h))
      have q2 : ((S (t.take 3)).toList == [57, 55, 57]) = false := by rw [p9]; exact decide_eq_false (fun h => h8 (.inr h))
      rw [if_neg (fun h => h8 h.2.2), if_neg (fun h => by omega)] at hx
      simp only [Prod.mk.injEq] at hx
      obtain ⟨rfl, rfl⟩ := hx
      rw [show S [] = (⟨#[]⟩ : ByteArray) from rfl]
      clear hd ha h8 p8 p9
      generalize S (t.take 3) = ex at *
      generalize S t = u at *
      generalize S l = s at *
      go_enter Tryd.func20, Tryd.ntmps20
      go_wp2_with fail
      refine (c0.out _).mono ?_
      rintro e w1 ⟨rfl, b1⟩
      go_wp2_with fail
      refine (c1.out _).mono ?_
      rintro e w2 ⟨rfl, rfl⟩
      go_wp2
      go_ret2
      exact ⟨rfl, b1⟩

set_option maxHeartbeats 16000000 in
set_option maxRecDepth 100000 in
theorem refIsbn_not (l : List UInt8) (hz : l.length ≤ 1000000) (t : List UInt8) (ht : removed l = t) (h13 : t.length ≠ 13) (r : List UInt8) (er : Int) (hx : isbnT t = (r, er)) (w : World) :
    Calls Tryd.prog 20 #[.string (S l)] w fun e w' => e = .returned (.tuple #[.string (S r), .int .i64 er]) ∧ Below w.heap.size w w' := by
  have c0 := Lib.hid (fun W => refRemoved_any l hz W)
  rw [ht] at c0
  obtain ⟨n, hn⟩ : ∃ n, t.length = n := ⟨_, rfl⟩
  have hu : (S t).size = n := by rw [S_size, hn]
  have hnz : n ≤ 1000000 := by rw [← hn, ← ht]; exact Nat.le_trans (removed_length l) hz
  have t1 : ((n : Int) == 13) = false := by simp; omega
  unfold isbnT at hx
  rw [if_neg (fun h => h13 h.1)] at hx
  by_cases h10 : n = 10
  · have hu : (S t).size = 10 := by rw [S_size, hn, h10]
    have ht10 : t.length = 10 := by omega
    cases he : endedB t
    · have c1 := Lib.hid (fun W => refended_any t (by omega) false he W)
      rw [if_neg (fun h => by rw [he] at h; cases h.2)] at hx
      simp only [Prod.mk.injEq] at hx
      obtain ⟨rfl, rfl⟩ := hx
      rw [show S [] = (⟨#[]⟩ : ByteArray) from rfl]
      clear he ht
      generalize S t = u at *
      generalize S l = s at *
      go_enter Tryd.func20, Tryd.ntmps20
      go_wp2_with fail
      refine (c0.out _).mono ?_
      rintro e w1 ⟨rfl, b1⟩
      go_wp2_with fail
      refine (c1.out _).mono ?_
      rintro e w2 ⟨rfl, rfl⟩
      go_wp2
      go_ret2
      exact ⟨rfl, b1⟩
    · have c1 := Lib.hid (fun W => refended_any t (by omega) true he W)
      have c2 := Lib.hid (fun W => refweighted_any t (by omega) he W)
      rw [if_pos ⟨ht10, he⟩] at hx
      have hwl := wS_le t (by omega)
      obtain ⟨wq, hwq⟩ : ∃ wq, wS t = wq := ⟨_, rfl⟩
      rw [hwq] at hx c2 hwl
      have m1 : Int.tmod (wq : Int) 11 = ((wq % 11 : Nat) : Int) := by rw [Int.tmod_eq_emod_of_nonneg (by omega)]; omega
      have m2 : (wq : Int) % 11 = ((wq % 11 : Nat) : Int) := by omega
      by_cases h11 : wq % 11 = 0
      · rw [if_pos h11] at hx
        simp only [Prod.mk.injEq] at hx
        obtain ⟨rfl, rfl⟩ := hx
        rw [h11] at m1 m2
        obtain ⟨p, hp⟩ : ∃ p, ([57, 55, 56] ++ t.take 9 : List UInt8) = p := ⟨_, rfl⟩
        have f1 : (S t).extract 0 9 = S (t.take 9) := by rw [S_extract]; rfl
        have f2 : (⟨#[57, 55, 56]⟩ : ByteArray) ++ S (t.take 9) = S p := by rw [show (⟨#[57, 55, 56]⟩ : ByteArray) = S [57, 55, 56] from rfl, S_append, hp]
        have z1 : (S (t.take 9)).size = 9 := by rw [S_size, List.length_take]; omega
        have hp12 : p.length = 12 := by rw [← hp, List.length_append, List.length_take]; simp; omega
        have z2 : (S p).size = 12 := by rw [S_size, hp12]
        have hpd : p.all digB = true := by
          rw [← hp, List.all_append, Bool.and_eq_true]
          refine ⟨by decide, ?_⟩
          obtain ⟨_, h2, _⟩ := ended_at t he
          rw [all_getD]
          intro i hi
          rw [List.length_take] at hi
          rw [getD_take _ _ _ (by omega)]
          exact h2 i (by omega)
        have c3 := Lib.hid (fun W => refalternating_any p (by omega) hpd W)
        have hal := altS_le p (by omega)
        rw [hp]
        obtain ⟨a, ha⟩ : ∃ a, altS p = a := ⟨_, rfl⟩
        rw [ha] at c3 hal ⊢
        obtain ⟨n1, n2, n3, n4, n5⟩ := comp_form a hal
        have hc9 := comp_le a
        have c4 := Lib.hid (fun W => refdigit_any (comp a) hc9 W)
        have f3 : S p ++ S [dgt (comp a)] = S (p ++ [dgt (comp a)]) := S_append _ _
        have z3 : (S [dgt (comp a)]).size = 1 := rfl
        have F3 := Lib.hid f3
        clear hwq he ht h11 hpd hp ha f3
        generalize comp a = cc at *
        generalize a % 10 = q at *
        generalize S (p ++ [dgt cc]) = res at *
        generalize S [dgt cc] = sd at *
        generalize S p = sp at *
        generalize S (t.take 9) = tk at *
        generalize S t = u at *
        generalize S l = s at *
        go_enter Tryd.func20, Tryd.ntmps20
        go_wp2_with fail
        refine (c0.out _).mono ?_
        rintro e w1 ⟨rfl, b1⟩
        go_wp2_with fail
        refine (c1.out _).mono ?_
        rintro e w2 ⟨rfl, rfl⟩
        go_wp2_with fail
        refine (c2.out _).mono ?_
        rintro e w2 ⟨rfl, rfl⟩
        go_wp2_with fail
        refine (c3.out _).mono ?_
        rintro e w2 ⟨rfl, rfl⟩
        go_wp2_with fail
        refine (c4.out _).mono ?_
        rintro e w3 ⟨rfl, c⟩
        have b3 := b1.trans (c.mono b1.size)
        clear c
        go_wp2
        go_ret2
        rw [← F3.out]
        exact ⟨rfl, b3⟩
      · rw [if_neg h11] at hx
        simp only [Prod.mk.injEq] at hx
        obtain ⟨rfl, rfl⟩ := hx
        rw [show S [] = (⟨#[]⟩ : ByteArray) from rfl]
        have t5 : (((wq % 11 : Nat) : Int) != 0) = true := by simp; omega
        clear hwq he ht h11
        generalize wq % 11 = q at *
        generalize S t = u at *
        generalize S l = s at *
        go_enter Tryd.func20, Tryd.ntmps20
        go_wp2_with fail
        refine (c0.out _).mono ?_
        rintro e w1 ⟨rfl, b1⟩
        go_wp2_with fail
        refine (c1.out _).mono ?_
        rintro e w2 ⟨rfl, rfl⟩
        go_wp2_with fail
        refine (c2.out _).mono ?_
        rintro e w2 ⟨rfl, rfl⟩
        go_wp2
        go_ret2
        exact ⟨rfl, b1⟩
  · have t2 : ((n : Int) != 10) = true := by simp; omega
    rw [if_neg (fun h => h10 (by omega))] at hx
    simp only [Prod.mk.injEq] at hx
    obtain ⟨rfl, rfl⟩ := hx
    rw [show S [] = (⟨#[]⟩ : ByteArray) from rfl]
    clear ht
    generalize S t = u at *
    generalize S l = s at *
    go_enter Tryd.func20, Tryd.ntmps20
    go_wp2_with fail
    refine (c0.out _).mono ?_
    rintro e w1 ⟨rfl, b1⟩
    go_wp2
    go_ret2
    exact ⟨rfl, b1⟩

theorem refIsbn_any (l : List UInt8) (hz : l.length ≤ 1000000) (r : List UInt8) (er : Int) (hx : isbnI l = (r, er)) (w : World) :
    Calls Tryd.prog 20 #[.string (S l)] w fun e w' => e = .returned (.tuple #[.string (S r), .int .i64 er]) ∧ Below w.heap.size w w' := by
  by_cases h : (removed l).length = 13
  · exact refIsbn_13 l hz _ rfl h r er hx w
  · exact refIsbn_not l hz _ rfl h r er hx w
end Go.Proofs.YtnbjgkhngolhfaaDoor
