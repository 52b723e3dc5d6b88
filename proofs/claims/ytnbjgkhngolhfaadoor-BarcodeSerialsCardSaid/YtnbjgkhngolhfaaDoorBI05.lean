/- Package barcode: Isbn. -/
import Derived.Test.YtnbjgkhngolhfaaDoorBN05
namespace Go.Proofs.YtnbjgkhngolhfaaDoor
open Go.RowKit Go.PlainAid

theorem struck_first (l : List UInt8) : ((l.filter fun x => decide (x ≠ 45)).filter fun x => decide (x ≠ 32)) = removed l := by
  rw [List.filter_filter]
  unfold removed keep
  refine List.filter_congr fun x _ => ?_
  rw [Bool.and_comm]

set_option maxHeartbeats 16000000 in
set_option maxRecDepth 100000 in
theorem barIsbn_10 (l : List UInt8) (hz : l.length ≤ 1000000) (t : List UInt8) (ht : removed l = t) (h10 : t.length = 10) (r : List UInt8) (er : Int) (hx : isbnT t = (r, er)) (w : World) (hT : Tab w) :
    Calls Tryd.prog 19 #[.string (S l)] w fun e w' => e = .returned (.tuple #[.string (S r), .int .i64 er]) ∧ Below w.heap.size w w' := by
  have c0 := Lib.hid (strike_any l 45 hz w hT)
  have c9 := Lib.hid (fun W (hW : Below w.heap.size w W) => strike_any (l.filter fun x => decide (x ≠ 45)) 32 (Nat.le_trans (List.length_filter_le _ _) hz) W (hT.on hW))
  rw [struck_first, ht] at c9
  unfold S at c0 c9
  change RowKit.Hid (∀ W (hW : Below w.heap.size w W), Calls Tryd.prog 32 #[.string (S (l.filter fun x => decide (x ≠ 45))), .string ⟨#[32]⟩, .string ⟨#[]⟩] W fun e w' => e = .returned (.string (S t)) ∧ Below W.heap.size W w') at c9
  change RowKit.Hid (Calls Tryd.prog 32 #[.string (S l), .string ⟨#[45]⟩, .string ⟨#[]⟩] w fun e w' => e = .returned (.string (S (l.filter fun x => decide (x ≠ 45)))) ∧ Below w.heap.size w w') at c0
  have hu : (S t).size = 10 := by rw [S_size, h10]
  unfold isbnT at hx
  rw [if_neg (fun h => by omega)] at hx
  cases he : endedB t
  · have c1 := Lib.hid (fun W => barnumd_any t (by omega) (by omega) false he W)
    rw [if_neg (fun h => by rw [he] at h; cases h.2)] at hx
    simp only [Prod.mk.injEq] at hx
    obtain ⟨rfl, rfl⟩ := hx
    rw [show S [] = (⟨#[]⟩ : ByteArray) from rfl]
    clear he ht
    generalize S (l.filter fun x => decide (x ≠ 45)) = m at *
    generalize S t = u at *
    generalize S l = s at *
    go_enter Tryd.func19, Tryd.ntmps19
    go_wp2_with fail
    refine (c0.out).mono ?_
    rintro e w1 ⟨rfl, b1⟩
    go_wp2_with fail
    refine (c9.out _ (by assumption)).mono ?_
    rintro e w2 ⟨rfl, c⟩
    have b2 := b1.trans (c.mono b1.size)
    clear c b1
    go_wp2_with fail
    refine (c1.out _).mono ?_
    rintro e w3 ⟨rfl, rfl⟩
    go_wp2
    go_ret2
    exact ⟨rfl, b2⟩
  · have c1 := Lib.hid (fun W => barnumd_any t (by omega) (by omega) true he W)
    have c2 := Lib.hid (fun W => barwei_any t (by omega) he W)
    have c3 := Lib.hid (fun W => barlong_any t h10 he W)
    rw [if_pos ⟨h10, he⟩] at hx
    change (if wS t % 11 = 0 then (longer t, (0 : Int)) else ([], 5)) = (r, er) at hx
    have hwl := wS_le t (by omega)
    obtain ⟨wq, hwq⟩ : ∃ wq, wS t = wq := ⟨_, rfl⟩
    rw [hwq] at hx c2 hwl
    have m1 : Int.tmod (wq : Int) 11 = ((wq % 11 : Nat) : Int) := by rw [Int.tmod_eq_emod_of_nonneg (by omega)]; omega
    have m2 : (wq : Int) % 11 = ((wq % 11 : Nat) : Int) := by omega
    clear he ht hwq
    by_cases h11 : wq % 11 = 0
    · rw [if_pos h11] at hx
      simp only [Prod.mk.injEq] at hx
      obtain ⟨rfl, rfl⟩ := hx
      rw [h11] at m1 m2
      clear h11
      generalize S (longer t) = res at *
      generalize S (l.filter fun x => decide (x ≠ 45)) = m at *
      generalize S t = u at *
      generalize S l = s at *
      go_enter Tryd.func19, Tryd.ntmps19
      go_wp2_with fail
      refine (c0.out).mono ?_
      rintro e w1 ⟨rfl, b1⟩
      go_wp2_with fail
      refine (c9.out _ (by assumption)).mono ?_
      rintro e w2 ⟨rfl, c⟩
      have b2 := b1.trans (c.mono b1.size)
      clear c b1
      go_wp2_with fail
      refine (c1.out _).mono ?_
      rintro e w3 ⟨rfl, rfl⟩
      go_wp2_with fail
      refine (c2.out _).mono ?_
      rintro e w3 ⟨rfl, rfl⟩
      go_wp2_with fail
      refine (c3.out _).mono ?_
      rintro e w3 ⟨rfl, rfl⟩
      go_wp2
      go_ret2
      exact ⟨rfl, b2⟩
    · rw [if_neg h11] at hx
      simp only [Prod.mk.injEq] at hx
      obtain ⟨rfl, rfl⟩ := hx
      rw [show S [] = (⟨#[]⟩ : ByteArray) from rfl]
      have t5 : (((wq % 11 : Nat) : Int) != 0) = true := by simp; omega
      clear h11
      generalize wq % 11 = q at *
      generalize S (l.filter fun x => decide (x ≠ 45)) = m at *
      generalize S t = u at *
      generalize S l = s at *
      go_enter Tryd.func19, Tryd.ntmps19
      go_wp2_with fail
      refine (c0.out).mono ?_
      rintro e w1 ⟨rfl, b1⟩
      go_wp2_with fail
      refine (c9.out _ (by assumption)).mono ?_
      rintro e w2 ⟨rfl, c⟩
      have b2 := b1.trans (c.mono b1.size)
      clear c b1
      go_wp2_with fail
      refine (c1.out _).mono ?_
      rintro e w3 ⟨rfl, rfl⟩
      go_wp2_with fail
      refine (c2.out _).mono ?_
      rintro e w3 ⟨rfl, rfl⟩
      go_wp2
      go_ret2
      exact ⟨rfl, b2⟩

set_option maxHeartbeats 16000000 in
set_option maxRecDepth 100000 in
theorem barIsbn_13 (l : List UInt8) (hz : l.length ≤ 1000000) (t : List UInt8) (ht : removed l = t) (h13 : t.length = 13) (r : List UInt8) (er : Int) (hx : isbnT t = (r, er)) (w : World) (hT : Tab w) :
    Calls Tryd.prog 19 #[.string (S l)] w fun e w' => e = .returned (.tuple #[.string (S r), .int .i64 er]) ∧ Below w.heap.size w w' := by
  have c0 := Lib.hid (strike_any l 45 hz w hT)
  have c9 := Lib.hid (fun W (hW : Below w.heap.size w W) => strike_any (l.filter fun x => decide (x ≠ 45)) 32 (Nat.le_trans (List.length_filter_le _ _) hz) W (hT.on hW))
  rw [struck_first, ht] at c9
  unfold S at c0 c9
  change RowKit.Hid (∀ W (hW : Below w.heap.size w W), Calls Tryd.prog 32 #[.string (S (l.filter fun x => decide (x ≠ 45))), .string ⟨#[32]⟩, .string ⟨#[]⟩] W fun e w' => e = .returned (.string (S t)) ∧ Below W.heap.size W w') at c9
  change RowKit.Hid (Calls Tryd.prog 32 #[.string (S l), .string ⟨#[45]⟩, .string ⟨#[]⟩] w fun e w' => e = .returned (.string (S (l.filter fun x => decide (x ≠ 45)))) ∧ Below w.heap.size w w') at c0
  have hu : (S t).size = 13 := by rw [S_size, h13]
  unfold isbnT at hx
  have c4 := Lib.hid (fun W => three_any t 57 55 56 (by omega) W)
  have c5 := Lib.hid (fun W => three_any t 57 55 57 (by omega) W)
  cases hd : t.all digB
  · have c1 := Lib.hid (fun W => barnum_any t (by omega) false hd W)
    rw [if_neg (fun h => by rw [hd] at h; cases h.2.1), if_neg (fun h => by omega)] at hx
    simp only [Prod.mk.injEq] at hx
    obtain ⟨rfl, rfl⟩ := hx
    rw [show S [] = (⟨#[]⟩ : ByteArray) from rfl]
    clear hd ht c4 c5
    generalize S (l.filter fun x => decide (x ≠ 45)) = m at *
    generalize S t = u at *
    generalize S l = s at *
    go_enter Tryd.func19, Tryd.ntmps19
    go_wp2_with fail
    refine (c0.out).mono ?_
    rintro e w1 ⟨rfl, b1⟩
    go_wp2_with fail
    refine (c9.out _ (by assumption)).mono ?_
    rintro e w2 ⟨rfl, c⟩
    have b2 := b1.trans (c.mono b1.size)
    clear c b1
    go_wp2_with fail
    refine (c1.out _).mono ?_
    rintro e w3 ⟨rfl, rfl⟩
    go_wp2
    go_ret2
    exact ⟨rfl, b2⟩
  · have c1 := Lib.hid (fun W => barnum_any t (by omega) true hd W)
    have c2 := Lib.hid (fun W => baralt_any t (by omega) hd W)
    have hal := altS_le t (by omega)
    obtain ⟨a, ha⟩ : ∃ a, altS t = a := ⟨_, rfl⟩
    rw [ha] at hx c2 hal
    obtain ⟨m1, m2, _, _, m5⟩ := comp_form a hal
    by_cases h8 : t.take 3 = [57, 55, 56] ∨ t.take 3 = [57, 55, 57]
    · rw [if_pos ⟨h13, hd, h8⟩] at hx
      have hpp : decide (t.take 3 = [57, 55, 56]) = true ∨ decide (t.take 3 = [57, 55, 56]) = false ∧ decide (t.take 3 = [57, 55, 57]) = true := by
        rcases h8 with h | h
        · exact .inl (decide_eq_true h)
        · exact .inr ⟨decide_eq_false (fun h2 => by rw [h] at h2; cases h2), decide_eq_true h⟩
      clear hd ht ha h8
      by_cases h0 : a % 10 = 0
      · rw [if_pos h0] at hx
        simp only [Prod.mk.injEq] at hx
        obtain ⟨rfl, rfl⟩ := hx
        rw [h0] at m1 m2
        clear h0 m5
        rcases hpp with p1 | ⟨p1, p2⟩
        · rw [p1] at c4
          clear p1 c5
          generalize S (l.filter fun x => decide (x ≠ 45)) = m at *
          generalize S t = u at *
          generalize S l = s at *
          go_enter Tryd.func19, Tryd.ntmps19
          go_wp2_with fail
          refine (c0.out).mono ?_
          rintro e w1 ⟨rfl, b1⟩
          go_wp2_with fail
          refine (c9.out _ (by assumption)).mono ?_
          rintro e w2 ⟨rfl, c⟩
          have b2 := b1.trans (c.mono b1.size)
          clear c b1
          go_wp2_with fail
          refine (c1.out _).mono ?_
          rintro e w3 ⟨rfl, rfl⟩
          go_wp2_with fail
          refine (c4.out _).mono ?_
          rintro e w3 ⟨rfl, rfl⟩
          go_wp2_with fail
          refine (c2.out _).mono ?_
          rintro e w3 ⟨rfl, rfl⟩
          go_wp2
          go_ret2
          exact ⟨rfl, b2⟩
        · rw [p1] at c4
          rw [p2] at c5
          clear p1 p2
          generalize S (l.filter fun x => decide (x ≠ 45)) = m at *
          generalize S t = u at *
          generalize S l = s at *
          go_enter Tryd.func19, Tryd.ntmps19
          go_wp2_with fail
          refine (c0.out).mono ?_
          rintro e w1 ⟨rfl, b1⟩
          go_wp2_with fail
          refine (c9.out _ (by assumption)).mono ?_
          rintro e w2 ⟨rfl, c⟩
          have b2 := b1.trans (c.mono b1.size)
          clear c b1
          go_wp2_with fail
          refine (c1.out _).mono ?_
          rintro e w3 ⟨rfl, rfl⟩
          go_wp2_with fail
          refine (c4.out _).mono ?_
          rintro e w3 ⟨rfl, rfl⟩
          go_wp2_with fail
          refine (c5.out _).mono ?_
          rintro e w3 ⟨rfl, rfl⟩
          go_wp2_with fail
          refine (c2.out _).mono ?_
          rintro e w3 ⟨rfl, rfl⟩
          go_wp2
          go_ret2
          exact ⟨rfl, b2⟩
      · rw [if_neg h0] at hx
        simp only [Prod.mk.injEq] at hx
        obtain ⟨rfl, rfl⟩ := hx
        rw [show S [] = (⟨#[]⟩ : ByteArray) from rfl]
        have t5 : (((a % 10 : Nat) : Int) != 0) = true := by simp; omega
        clear h0
        generalize a % 10 = q at *
        rcases hpp with p1 | ⟨p1, p2⟩
        · rw [p1] at c4
          clear p1 c5
          generalize S (l.filter fun x => decide (x ≠ 45)) = m at *
          generalize S t = u at *
          generalize S l = s at *
          go_enter Tryd.func19, Tryd.ntmps19
          go_wp2_with fail
          refine (c0.out).mono ?_
          rintro e w1 ⟨rfl, b1⟩
          go_wp2_with fail
          refine (c9.out _ (by assumption)).mono ?_
          rintro e w2 ⟨rfl, c⟩
          have b2 := b1.trans (c.mono b1.size)
          clear c b1
          go_wp2_with fail
          refine (c1.out _).mono ?_
          rintro e w3 ⟨rfl, rfl⟩
          go_wp2_with fail
          refine (c4.out _).mono ?_
          rintro e w3 ⟨rfl, rfl⟩
          go_wp2_with fail
          refine (c2.out _).mono ?_
          rintro e w3 ⟨rfl, rfl⟩
          go_wp2
          go_ret2
          exact ⟨rfl, b2⟩
        · rw [p1] at c4
          rw [p2] at c5
          clear p1 p2
          generalize S (l.filter fun x => decide (x ≠ 45)) = m at *
          generalize S t = u at *
          generalize S l = s at *
          go_enter Tryd.func19, Tryd.ntmps19
          go_wp2_with fail
          refine (c0.out).mono ?_
          rintro e w1 ⟨rfl, b1⟩
          go_wp2_with fail
          refine (c9.out _ (by assumption)).mono ?_
          rintro e w2 ⟨rfl, c⟩
          have b2 := b1.trans (c.mono b1.size)
          clear c b1
          go_wp2_with fail
          refine (c1.out _).mono ?_
          rintro e w3 ⟨rfl, rfl⟩
          go_wp2_with fail
          refine (c4.out _).mono ?_
          rintro e w3 ⟨rfl, rfl⟩
          go_wp2_with fail
          refine (c5.out _).mono ?_
          rintro e w3 ⟨rfl, rfl⟩
          go_wp2_with fail
          refine (c2.out _).mono ?_
          rintro e w3 ⟨rfl, rfl⟩
          go_wp2
          go_ret2
          exact ⟨rfl, b2⟩
    · rw [if_neg (fun h => h8 h.2.2), if_neg (fun h => by omega)] at hx
      simp only [Prod.mk.injEq] at hx
      obtain ⟨rfl, rfl⟩ := hx
      rw [show S [] = (⟨#[]⟩ : ByteArray) from rfl]
      rw [decide_eq_false (fun h => h8 (.inl h))] at c4
      rw [decide_eq_false (fun h => h8 (.inr h))] at c5
      clear hd ht ha h8 c2 m1 m2 m5
      generalize S (l.filter fun x => decide (x ≠ 45)) = m at *
      generalize S t = u at *
      generalize S l = s at *
      go_enter Tryd.func19, Tryd.ntmps19
      go_wp2_with fail
      refine (c0.out).mono ?_
      rintro e w1 ⟨rfl, b1⟩
      go_wp2_with fail
      refine (c9.out _ (by assumption)).mono ?_
      rintro e w2 ⟨rfl, c⟩
      have b2 := b1.trans (c.mono b1.size)
      clear c b1
      go_wp2_with fail
      refine (c1.out _).mono ?_
      rintro e w3 ⟨rfl, rfl⟩
      go_wp2_with fail
      refine (c4.out _).mono ?_
      rintro e w3 ⟨rfl, rfl⟩
      go_wp2_with fail
      refine (c5.out _).mono ?_
      rintro e w3 ⟨rfl, rfl⟩
      go_wp2
      go_ret2
      exact ⟨rfl, b2⟩

set_option maxHeartbeats 16000000 in
set_option maxRecDepth 100000 in
theorem barIsbn_else (l : List UInt8) (hz : l.length ≤ 1000000) (t : List UInt8) (ht : removed l = t) (h10 : t.length ≠ 10) (h13 : t.length ≠ 13) (r : List UInt8) (er : Int) (hx : isbnT t = (r, er)) (w : World) (hT : Tab w) :
    Calls Tryd.prog 19 #[.string (S l)] w fun e w' => e = .returned (.tuple #[.string (S r), .int .i64 er]) ∧ Below w.heap.size w w' := by
  have c0 := Lib.hid (strike_any l 45 hz w hT)
  have c9 := Lib.hid (fun W (hW : Below w.heap.size w W) => strike_any (l.filter fun x => decide (x ≠ 45)) 32 (Nat.le_trans (List.length_filter_le _ _) hz) W (hT.on hW))
  rw [struck_first, ht] at c9
  unfold S at c0 c9
  change RowKit.Hid (∀ W (hW : Below w.heap.size w W), Calls Tryd.prog 32 #[.string (S (l.filter fun x => decide (x ≠ 45))), .string ⟨#[32]⟩, .string ⟨#[]⟩] W fun e w' => e = .returned (.string (S t)) ∧ Below W.heap.size W w') at c9
  change RowKit.Hid (Calls Tryd.prog 32 #[.string (S l), .string ⟨#[45]⟩, .string ⟨#[]⟩] w fun e w' => e = .returned (.string (S (l.filter fun x => decide (x ≠ 45)))) ∧ Below w.heap.size w w') at c0
  obtain ⟨n, hn⟩ : ∃ n, t.length = n := ⟨_, rfl⟩
  have hu : (S t).size = n := by rw [S_size, hn]
  have hn2 : n ≤ 1000000 := by
    rw [← hn, ← ht]
    exact Nat.le_trans (removed_length l) hz
  rw [hn] at h10 h13
  have t1 : ((n : Int) == 10) = false := by simp; omega
  have t2 : ((n : Int) == 13) = false := by simp; omega
  unfold isbnT at hx
  rw [if_neg (fun h => by omega), if_neg (fun h => by omega)] at hx
  simp only [Prod.mk.injEq] at hx
  obtain ⟨rfl, rfl⟩ := hx
  rw [show S [] = (⟨#[]⟩ : ByteArray) from rfl]
  clear ht hn
  generalize S (l.filter fun x => decide (x ≠ 45)) = m at *
  generalize S t = u at *
  generalize S l = s at *
  go_enter Tryd.func19, Tryd.ntmps19
  go_wp2_with fail
  refine (c0.out).mono ?_
  rintro e w1 ⟨rfl, b1⟩
  go_wp2_with fail
  refine (c9.out _ (by assumption)).mono ?_
  rintro e w2 ⟨rfl, c⟩
  have b2 := b1.trans (c.mono b1.size)
  clear c b1
  go_wp2
  go_ret2
  exact ⟨rfl, b2⟩

theorem barIsbn_any (l : List UInt8) (hz : l.length ≤ 1000000) (r : List UInt8) (er : Int) (hx : isbnI l = (r, er)) (w : World) (hT : Tab w) :
    Calls Tryd.prog 19 #[.string (S l)] w fun e w' => e = .returned (.tuple #[.string (S r), .int .i64 er]) ∧ Below w.heap.size w w' := by
  by_cases h10 : (removed l).length = 10
  · exact barIsbn_10 l hz _ rfl h10 r er hx w hT
  · by_cases h13 : (removed l).length = 13
    · exact barIsbn_13 l hz _ rfl h13 r er hx w hT
    · exact barIsbn_else l hz _ rfl h10 h13 r er hx w hT
end Go.Proofs.YtnbjgkhngolhfaaDoor
