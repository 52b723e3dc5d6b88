/- Merged: BI05, TClip, Plain08B, DW08. -/
import Derived.Test.YtfjfpefpdlecbaaGreatDoorQ23
import Derived.Test.YtfjfpefpdlecbaaGreatDoorQ04
import Derived.Test.YtfjfpefpdlecbaaGreatDoorQ07
import Derived.Test.YtfjfpefpdlecbaaGreatDoorQ06
import Derived.Test.YtfjfpefpdlecbaaGreatDoorQ01
import Derived.Test.YtfjfpefpdlecbaaGreatDoorQ19
import Derived.Lib.FieldsP
namespace Go.Proofs.YtfjfpefpdlecbaaGreatDoor

section
open Go.RowKit Go.PlainAid
theorem struck_first (l : List UInt8) : ((l.filter fun x => decide (x ≠ 45)).filter fun x => decide (x ≠ 32)) = removed l := by
  rw [List.filter_filter]
  unfold removed keep
  refine List.filter_congr fun x _ => ?_
  rw [Bool.and_comm]

set_option maxHeartbeats 16000000 in
set_option maxRecDepth 100000 in
theorem barIsbn_10 (l : List UInt8) (hz : l.length ≤ 1000000) (t : List UInt8) (ht : removed l = t) (h10 : t.length = 10) (r : List UInt8) (er : Int) (hx : isbnT t = (r, er)) (w : World) (hT : Tab w) :
    Calls Tryz.prog 60 #[.string (S l)] w fun e w' => e = .returned (.tuple #[.string (S r), .int .i64 er]) ∧ Below w.heap.size w w' := by
  have c0 := Lib.hid (strike_any l 45 hz w hT)
  have c9 := Lib.hid (fun W (hW : Below w.heap.size w W) => strike_any (l.filter fun x => decide (x ≠ 45)) 32 (Nat.le_trans (List.length_filter_le _ _) hz) W (hT.on hW))
  rw [struck_first, ht] at c9
  unfold S at c0 c9
  change RowKit.Hid (∀ W (hW : Below w.heap.size w W), Calls Tryz.prog 77 #[.string (S (l.filter fun x => decide (x ≠ 45))), .string ⟨#[32]⟩, .string ⟨#[]⟩] W fun e w' => e = .returned (.string (S t)) ∧ Below W.heap.size W w') at c9
  change RowKit.Hid (Calls Tryz.prog 77 #[.string (S l), .string ⟨#[45]⟩, .string ⟨#[]⟩] w fun e w' => e = .returned (.string (S (l.filter fun x => decide (x ≠ 45)))) ∧ Below w.heap.size w w') at c0
  have hu : (S t).size = 10 := by rw [S_size, h10]
  unfold isbnT at hx
  rw [if_neg (fun h => by omega)] at hx
  cases he : endedB t
  · have c1 := Lib.hid (fun W => barnumd_any t (by omega) (by omega) false he W)
    rw [if_neg (fun h => by rw [he] at h; cases h.2)] at hx
    simp only [Prod.mk.injEq] at hx
    obtain ⟨rfl, rfl⟩ := hx
    rw [show S [] = (⟨#[]⟩ : ByteArray) from rfl]
    clear he ht
    generalize S (l.filter fun x => decide (x ≠ 45)) = m at *
    generalize S t = u at *
    generalize S l = s at *
    go_enter Tryz.func60, Tryz.ntmps60
    go_wp2_with fail
    refine (c0.out).mono ?_
    rintro e w1 ⟨rfl, b1⟩
    go_wp2_with fail
    refine (c9.out _ (by assumption)).mono ?_
    rintro e w2 ⟨rfl, c⟩
    have b2 := b1.trans (c.mono b1.size)
    clear c b1
    go_wp2_with fail
    refine (c1.out _).mono ?_
    rintro e w3 ⟨rfl, rfl⟩
    go_wp2
    go_ret2
    exact ⟨rfl, b2⟩
  · have c1 := Lib.hid (fun W => barnumd_any t (by omega) (by omega) true he W)
    have c2 := Lib.hid (fun W => barwei_any t (by omega) he W)
    have c3 := Lib.hid (fun W => barlong_any t h10 he W)
    rw [if_pos ⟨h10, he⟩] at hx
    change (if wS t % 11 = 0 then (longer t, (0 : Int)) else ([], 5)) = (r, er) at hx
    have hwl := wS_le t (by omega)
    obtain ⟨wq, hwq⟩ : ∃ wq, wS t = wq := ⟨_, rfl⟩
    rw [hwq] at hx c2 hwl
    have m1 : Int.tmod (wq : Int) 11 = ((wq % 11 : Nat) : Int) := by rw [Int.tmod_eq_emod_of_nonneg (by omega)]; omega
    have m2 : (wq : Int) % 11 = ((wq % 11 : Nat) : Int) := by omega
    clear he ht hwq
    by_cases h11 : wq % 11 = 0
    · rw [if_pos h11] at hx
      simp only [Prod.mk.injEq] at hx
      obtain ⟨rfl, rfl⟩ := hx
      rw [h11] at m1 m2
      clear h11
      generalize S (longer t) = res at *
      generalize S (l.filter fun x => decide (x ≠ 45)) = m at *
      generalize S t = u at *
      generalize S l = s at *
      go_enter Tryz.func60, Tryz.ntmps60
      go_wp2_with fail
      refine (c0.out).mono ?_
      rintro e w1 ⟨rfl, b1⟩
      go_wp2_with fail
      refine (c9.out _ (by assumption)).mono ?_
      rintro e w2 ⟨rfl, c⟩
      have b2 := b1.trans (c.mono b1.size)
      clear c b1
      go_wp2_with fail
      refine (c1.out _).mono ?_
      rintro e w3 ⟨rfl, rfl⟩
      go_wp2_with fail
      refine (c2.out _).mono ?_
      rintro e w3 ⟨rfl, rfl⟩
      go_wp2_with fail
      refine (c3.out _).mono ?_
      rintro e w3 ⟨rfl, rfl⟩
      go_wp2
      go_ret2
      exact ⟨rfl, b2⟩
    · rw [if_neg h11] at hx
      simp only [Prod.mk.injEq] at hx
      obtain ⟨rfl, rfl⟩ := hx
      rw [show S [] = (⟨#[]⟩ : ByteArray) from rfl]
      have t5 : (((wq % 11 : Nat) : Int) != 0) = true := by simp; omega
      clear h11
      generalize wq % 11 = q at *
      generalize S (l.filter fun x => decide (x ≠ 45)) = m at *
      generalize S t = u at *
      generalize S l = s at *
      go_enter Tryz.func60, Tryz.ntmps60
      go_wp2_with fail
      refine (c0.out).mono ?_
      rintro e w1 ⟨rfl, b1⟩
      go_wp2_with fail
      refine (c9.out _ (by assumption)).mono ?_
      rintro e w2 ⟨rfl, c⟩
      have b2 := b1.trans (c.mono b1.size)
      clear c b1
      go_wp2_with fail
      refine (c1.out _).mono ?_
      rintro e w3 ⟨rfl, rfl⟩
      go_wp2_with fail
      refine (c2.out _).mono ?_
      rintro e w3 ⟨rfl, rfl⟩
      go_wp2
      go_ret2
      exact ⟨rfl, b2⟩

set_option maxHeartbeats 16000000 in
set_option maxRecDepth 100000 in
theorem barIsbn_13 (l : List UInt8) (hz : l.length ≤ 1000000) (t : List UInt8) (ht : removed l = t) (h13 : t.length = 13) (r : List UInt8) (er : Int) (hx : isbnT t = (r, er)) (w : World) (hT : Tab w) :
    Calls Tryz.prog 60 #[.string (S l)] w fun e w' => e = .returned (.tuple #[.string (S r), .int .i64 er]) ∧ Below w.heap.size w w' := by
  have c0 := Lib.hid (strike_any l 45 hz w hT)
  have c9 := Lib.hid (fun W (hW : Below w.heap.size w W) => strike_any (l.filter fun x => decide (x ≠ 45)) 32 (Nat.le_trans (List.length_filter_le _ _) hz) W (hT.on hW))
  rw [struck_first, ht] at c9
  unfold S at c0 c9
  change RowKit.Hid (∀ W (hW : Below w.heap.size w W), Calls Tryz.prog 77 #[.string (S (l.filter fun x => decide (x ≠ 45))), .string ⟨#[32]⟩, .string ⟨#[]⟩] W fun e w' => e = .returned (.string (S t)) ∧ Below W.heap.size W w') at c9
  change RowKit.Hid (Calls Tryz.prog 77 #[.string (S l), .string ⟨#[45]⟩, .string ⟨#[]⟩] w fun e w' => e = .returned (.string (S (l.filter fun x => decide (x ≠ 45)))) ∧ Below w.heap.size w w') at c0
  have hu : (S t).size = 13 := by rw [S_size, h13]
  unfold isbnT at hx
  have c4 := Lib.hid (fun W => three_any t 57 55 56 (by omega) W)
  have c5 := Lib.hid (fun W => three_any t 57 55 57 (by omega) W)
  cases hd : t.all dgB5
  · have c1 := Lib.hid (fun W => barnum_any t (by omega) false hd W)
    rw [if_neg (fun h => by rw [hd] at h; cases h.2.1), if_neg (fun h => by omega)] at hx
    simp only [Prod.mk.injEq] at hx
    obtain ⟨rfl, rfl⟩ := hx
    rw [show S [] = (⟨#[]⟩ : ByteArray) from rfl]
    clear hd ht c4 c5
    generalize S (l.filter fun x => decide (x ≠ 45)) = m at *
    generalize S t = u at *
    generalize S l = s at *
    go_enter Tryz.func60, Tryz.ntmps60
    go_wp2_with fail
    refine (c0.out).mono ?_
    rintro e w1 ⟨rfl, b1⟩
    go_wp2_with fail
    refine (c9.out _ (by assumption)).mono ?_
    rintro e w2 ⟨rfl, c⟩
    have b2 := b1.trans (c.mono b1.size)
    clear c b1
    go_wp2_with fail
    refine (c1.out _).mono ?_
    rintro e w3 ⟨rfl, rfl⟩
    go_wp2
    go_ret2
    exact ⟨rfl, b2⟩
  · have c1 := Lib.hid (fun W => barnum_any t (by omega) true hd W)
    have c2 := Lib.hid (fun W => baralt_any t (by omega) hd W)
    have hal := altS_le t (by omega)
    obtain ⟨a, ha⟩ : ∃ a, altS t = a := ⟨_, rfl⟩
    rw [ha] at hx c2 hal
    obtain ⟨m1, m2, _, _, m5⟩ := comp_form a hal
    by_cases h8 : t.take 3 = [57, 55, 56] ∨ t.take 3 = [57, 55, 57]
    · rw [if_pos ⟨h13, hd, h8⟩] at hx
      have hpp : decide (t.take 3 = [57, 55, 56]) = true ∨ decide (t.take 3 = [57, 55, 56]) = false ∧ decide (t.take 3 = [57, 55, 57]) = true := by
        rcases h8 with h | h
        · exact .inl (decide_eq_true h)
        · exact .inr ⟨decide_eq_false (fun h2 => by rw [h] at h2; cases h2), decide_eq_true h⟩
      clear hd ht ha h8
      by_cases h0 : a % 10 = 0
      · rw [if_pos h0] at hx
        simp only [Prod.mk.injEq] at hx
        obtain ⟨rfl, rfl⟩ := hx
        rw [h0] at m1 m2
        clear h0 m5
        rcases hpp with p1 | ⟨p1, p2⟩
        · rw [p1] at c4
          clear p1 c5
          generalize S (l.filter fun x => decide (x ≠ 45)) = m at *
          generalize S t = u at *
          generalize S l = s at *
          go_enter Tryz.func60, Tryz.ntmps60
          go_wp2_with fail
          refine (c0.out).mono ?_
          rintro e w1 ⟨rfl, b1⟩
          go_wp2_with fail
          refine (c9.out _ (by assumption)).mono ?_
          rintro e w2 ⟨rfl, c⟩
          have b2 := b1.trans (c.mono b1.size)
          clear c b1
          go_wp2_with fail
          refine (c1.out _).mono ?_
          rintro e w3 ⟨rfl, rfl⟩
          go_wp2_with fail
          refine (c4.out _).mono ?_
          rintro e w3 ⟨rfl, rfl⟩
          go_wp2_with fail
          refine (c2.out _).mono ?_
          rintro e w3 ⟨rfl, rfl⟩
          go_wp2
          go_ret2
          exact ⟨rfl, b2⟩
        · rw [p1] at c4
          rw [p2] at c5
          clear p1 p2
          generalize S (l.filter fun x => decide (x ≠ 45)) = m at *
          generalize S t = u at *
          generalize S l = s at *
          go_enter Tryz.func60, Tryz.ntmps60
          go_wp2_with fail
          refine (c0.out).mono ?_
          rintro e w1 ⟨rfl, b1⟩
          go_wp2_with fail
          refine (c9.out _ (by assumption)).mono ?_
          rintro e w2 ⟨rfl, c⟩
          have b2 := b1.trans (c.mono b1.size)
          clear c b1
          go_wp2_with fail
          refine (c1.out _).mono ?_
          rintro e w3 ⟨rfl, rfl⟩
          go_wp2_with fail
          refine (c4.out _).mono ?_
          rintro e w3 ⟨rfl, rfl⟩
          go_wp2_with fail
          refine (c5.out _).mono ?_
          rintro e w3 ⟨rfl, rfl⟩
          go_wp2_with fail
          refine (c2.out _).mono ?_
          rintro e w3 ⟨rfl, rfl⟩
          go_wp2
          go_ret2
          exact ⟨rfl, b2⟩
      · rw [if_neg h0] at hx
        simp only [Prod.mk.injEq] at hx
        obtain ⟨rfl, rfl⟩ := hx
        rw [show S [] = (⟨#[]⟩ : ByteArray) from rfl]
        have t5 : (((a % 10 : Nat) : Int) != 0) = true := by simp; omega
        clear h0
        generalize a % 10 = q at *
        rcases hpp with p1 | ⟨p1, p2⟩
        · rw [p1] at c4
          clear p1 c5
          generalize S (l.filter fun x => decide (x ≠ 45)) = m at *
          generalize S t = u at *
          generalize S l = s at *
          go_enter Tryz.func60, Tryz.ntmps60
          go_wp2_with fail
          refine (c0.out).mono ?_
          rintro e w1 ⟨rfl, b1⟩
          go_wp2_with fail
          refine (c9.out _ (by assumption)).mono ?_
          rintro e w2 ⟨rfl, c⟩
          have b2 := b1.trans (c.mono b1.size)
          clear c b1
          go_wp2_with fail
          refine (c1.out _).mono ?_
          rintro e w3 ⟨rfl, rfl⟩
          go_wp2_with fail
          refine (c4.out _).mono ?_
          rintro e w3 ⟨rfl, rfl⟩
          go_wp2_with fail
          refine (c2.out _).mono ?_
          rintro e w3 ⟨rfl, rfl⟩
          go_wp2
          go_ret2
          exact ⟨rfl, b2⟩
        · rw [p1] at c4
          rw [p2] at c5
          clear p1 p2
          generalize S (l.filter fun x => decide (x ≠ 45)) = m at *
          generalize S t = u at *
          generalize S l = s at *
          go_enter Tryz.func60, Tryz.ntmps60
          go_wp2_with fail
          refine (c0.out).mono ?_
          rintro e w1 ⟨rfl, b1⟩
          go_wp2_with fail
          refine (c9.out _ (by assumption)).mono ?_
          rintro e w2 ⟨rfl, c⟩
          have b2 := b1.trans (c.mono b1.size)
          clear c b1
          go_wp2_with fail
          refine (c1.out _).mono ?_
          rintro e w3 ⟨rfl, rfl⟩
          go_wp2_with fail
          refine (c4.out _).mono ?_
          rintro e w3 ⟨rfl, rfl⟩
          go_wp2_with fail
          refine (c5.out _).mono ?_
          rintro e w3 ⟨rfl, rfl⟩
          go_wp2_with fail
          refine (c2.out _).mono ?_
          rintro e w3 ⟨rfl, rfl⟩
          go_wp2
          go_ret2
          exact ⟨rfl, b2⟩
    · rw [if_neg (fun h => h8 h.2.2), if_neg (fun h => by omega)] at hx
      simp only [Prod.mk.injEq] at hx
      obtain ⟨rfl, rfl⟩ := hx
      rw [show S [] = (⟨#[]⟩ : ByteArray) from rfl]
      rw [decide_eq_false (fun h => h8 (.inl h))] at c4
      rw [decide_eq_false (fun h => h8 (.inr h))] at c5
      clear hd ht ha h8 c2 m1 m2 m5
      generalize S (l.filter fun x => decide (x ≠ 45)) = m at *
      generalize S t = u at *
      generalize S l = s at *
      go_enter Tryz.func60, Tryz.ntmps60
      go_wp2_with fail
      refine (c0.out).mono ?_
      rintro e w1 ⟨rfl, b1⟩
      go_wp2_with fail
      refine (c9.out _ (by assumption)).mono ?_
      rintro e w2 ⟨rfl, c⟩
      have b2 := b1.trans (c.mono b1.size)
      clear c b1
      go_wp2_with fail
      refine (c1.out _).mono ?_
      rintro e w3 ⟨rfl, rfl⟩
      go_wp2_with fail
      refine (c4.out _).mono ?_
      rintro e w3 ⟨rfl, rfl⟩
      go_wp2_with fail
      refine (c5.out _).mono ?_
      rintro e w3 ⟨rfl, rfl⟩
      go_wp2
      go_ret2
      exact ⟨rfl, b2⟩

set_option maxHeartbeats 16000000 in
set_option maxRecDepth 100000 in
theorem barIsbn_else (l : List UInt8) (hz : l.length ≤ 1000000) (t : List UInt8) (ht : removed l = t) (h10 : t.length ≠ 10) (h13 : t.length ≠ 13) (r : List UInt8) (er : Int) (hx : isbnT t = (r, er)) (w : World) (hT : Tab w) :
    Calls Tryz.prog 60 #[.string (S l)] w fun e w' => e = .returned (.tuple #[.string (S r), .int .i64 er]) ∧ Below w.heap.size w w' := by
  have c0 := Lib.hid (strike_any l 45 hz w hT)
  have c9 := Lib.hid (fun W (hW : Below w.heap.size w W) => strike_any (l.filter fun x => decide (x ≠ 45)) 32 (Nat.le_trans (List.length_filter_le _ _) hz) W (hT.on hW))
  rw [struck_first, ht] at c9
  unfold S at c0 c9
  change RowKit.Hid (∀ W (hW : Below w.heap.size w W), Calls Tryz.prog 77 #[.string (S (l.filter fun x => decide (x ≠ 45))), .string ⟨#[32]⟩, .string ⟨#[]⟩] W fun e w' => e = .returned (.string (S t)) ∧ Below W.heap.size W w') at c9
  change RowKit.Hid (Calls Tryz.prog 77 #[.string (S l), .string ⟨#[45]⟩, .string ⟨#[]⟩] w fun e w' => e = .returned (.string (S (l.filter fun x => decide (x ≠ 45)))) ∧ Below w.heap.size w w') at c0
  obtain ⟨n, hn⟩ : ∃ n, t.length = n := ⟨_, rfl⟩
  have hu : (S t).size = n := by rw [S_size, hn]
  have hn2 : n ≤ 1000000 := by
    rw [← hn, ← ht]
    exact Nat.le_trans (removed_length l) hz
  rw [hn] at h10 h13
  have t1 : ((n : Int) == 10) = false := by simp; omega
  have t2 : ((n : Int) == 13) = false := by simp; omega
  unfold isbnT at hx
  rw [if_neg (fun h => by omega), if_neg (fun h => by omega)] at hx
  simp only [Prod.mk.injEq] at hx
  obtain ⟨rfl, rfl⟩ := hx
  rw [show S [] = (⟨#[]⟩ : ByteArray) from rfl]
  clear ht hn
  generalize S (l.filter fun x => decide (x ≠ 45)) = m at *
  generalize S t = u at *
  generalize S l = s at *
  go_enter Tryz.func60, Tryz.ntmps60
  go_wp2_with fail
  refine (c0.out).mono ?_
  rintro e w1 ⟨rfl, b1⟩
  go_wp2_with fail
  refine (c9.out _ (by assumption)).mono ?_
  rintro e w2 ⟨rfl, c⟩
  have b2 := b1.trans (c.mono b1.size)
  clear c b1
  go_wp2
  go_ret2
  exact ⟨rfl, b2⟩

theorem barIsbn_any (l : List UInt8) (hz : l.length ≤ 1000000) (r : List UInt8) (er : Int) (hx : isbnI l = (r, er)) (w : World) (hT : Tab w) :
    Calls Tryz.prog 60 #[.string (S l)] w fun e w' => e = .returned (.tuple #[.string (S r), .int .i64 er]) ∧ Below w.heap.size w w' := by
  by_cases h10 : (removed l).length = 10
  · exact barIsbn_10 l hz _ rfl h10 r er hx w hT
  · by_cases h13 : (removed l).length = 13
    · exact barIsbn_13 l hz _ rfl h13 r er hx w hT
    · exact barIsbn_else l hz _ rfl h10 h13 r er hx w hT
end

section
open Go.RowKit
set_option maxHeartbeats 1000000 in
theorem clip_any (cs : List Nat) (h : OKs cs) (s : ByteArray) (hs : s = T cs) (n : Int) (hn0 : -9223372036854775808 ≤ n) (hn1 : n ≤ 9223372036854775807) (w : World) :
    Calls Tryz.prog 61 #[.string s, .int .i64 n] w fun e w' => e = .returned (.string (T (cs.take n.toNat))) ∧ Below w.heap.size w w' := by
  subst hs
  by_cases hz : n < 1
  · have e0 : T (cs.take n.toNat) = ⟨#[]⟩ := by
      rw [show n.toNat = 0 by omega]; rfl
    rw [e0]
    clear e0
    go_enter Tryz.func61, Tryz.ntmps61
    go_wp2
    go_ret
    exact ⟨rfl, Below.refl _ _⟩
  · have hz' : decide (n < 1) = false := by simp; omega
    go_enter Tryz.func61, Tryz.ntmps61
    go_wp2
    go_loopw [1] (fun m wr => ∃ j : Nat, j ≤ cs.length ∧ (j : Int) ≤ n ∧ m = .int .i64 (n - j) ∧ wr.heap[w.heap.size]? = some (.stringIter (T cs) (off cs j)) ∧ Below w.heap.size w wr) (fun _ wr => (T cs).size - wr.iterPos w.heap.size)
    case atStart =>
      refine ⟨0, Nat.zero_le _, by omega, by simp, ?_, (Below.refl _ w).alloc (Nat.le_refl _) _⟩
      rw [off_zero]
      exact World.iter_heap w (T cs) 0
    case round =>
      obtain ⟨j, hj, hjn, rfl, hit, hbw⟩ := hrel
      by_cases hlt : j < cs.length
      · have hnx : ∀ ty, (Instr.next (.pointer (some ⟨w.heap.size, 0, none⟩)) true ty).run Tryz.prog wr = _ := fun ty => next_T wr w.heap.size cs h j hit hlt ty
        have hit2 := Lib.iterAt_heap wr w.heap.size (T cs) (off cs j) (off cs (j + 1)) hit
        have hbw2 := Lib.below_iterAt hbw (k := w.heap.size) (Nat.le_refl _) (T cs) (off cs (j + 1))
        have hm1 := pos_T _ _ _ _ hit
        have hm2 := pos_T _ _ _ _ hit2
        have hol := off_lt cs j hlt
        have hoj := off_inj cs j (j + 1) (by omega) (by omega)
        have HM := Lib.hid (And.intro hm1 hm2)
        clear hm1 hm2
        by_cases hjn' : (j : Int) = n
        · have e1 : (n - (j : Int) == 0) = true := by simp; omega
          have HN := Lib.hid hjn'
          clear hjn'
          go_wp2
          go_ret
          refine ⟨?_, hbw2⟩
          rw [extract_T0, show n.toNat = j by have := HN.out; omega]
          rfl
        · have e1 : (n - (j : Int) == 0) = false := by simp; omega
          clear hjn'
          have hgt : (j : Int) < n := by
            rcases Int.lt_or_eq_of_le hjn with x | x
            · exact x
            · rw [x] at e1; simp at e1
          go_wp2
          go_roundw
          case rel => exact ⟨j + 1, by omega, by omega, by simp; omega, hit2, hbw2⟩
          case measure => rw [HM.out.1, HM.out.2]; omega
      · obtain rfl : j = cs.length := by omega
        have hnx : ∀ ty, (Instr.next (.pointer (some ⟨w.heap.size, 0, none⟩)) true ty).run Tryz.prog wr = _ := fun ty => end_T wr w.heap.size cs _ hit rfl ty
        go_wp2
        go_ret
        refine ⟨?_, hbw⟩
        rw [List.take_of_length_le (by omega)]
        rfl

theorem clip_is (s t : ByteArray) (cs : List Nat) (h : OKs cs) (hs : s = T cs) (n : Int) (hn0 : -9223372036854775808 ≤ n) (hn1 : n ≤ 9223372036854775807) (ht : T (cs.take n.toNat) = t) (w : World) :
    Calls Tryz.prog 61 #[.string s, .int .i64 n] w fun e w' => e = .returned (.string t) ∧ Below w.heap.size w w' := by
  have := clip_any cs h s hs n hn0 hn1 w
  rwa [ht] at this
end

section
/-- The first number that is not 0. -/
def firstI {α : Type} (p : α → Int) : List α → Int
  | [] => 0
  | a :: t => if p a ≠ 0 then p a else firstI p t
theorem firstI_hit {α : Type} (d : α) (p : α → Int) : ∀ (L : List α) (k : Nat), k < L.length → (∀ j, j < k → p (L.getD j d) = 0) → p (L.getD k d) ≠ 0 → firstI p L = p (L.getD k d)
  | [], _, hk, _, _ => by cases hk
  | s :: t, 0, _, _, he => by
    have he : p s ≠ 0 := he
    rw [firstI, if_pos he]
    rfl
  | s :: t, k + 1, hk, h, he => by
    have h0 : p s = 0 := h 0 (Nat.succ_pos k)
    rw [firstI, if_neg (fun h => h h0)]
    exact firstI_hit d p t k (by simpa using hk) (fun j hj => h (j + 1) (by omega)) he
theorem firstI_miss {α : Type} (d : α) (p : α → Int) : ∀ (L : List α), (∀ j, j < L.length → p (L.getD j d) = 0) → firstI p L = 0
  | [], _ => rfl
  | s :: t, h => by
    have h0 : p s = 0 := h 0 (by simp)
    rw [firstI, if_neg (fun h => h h0)]
    exact firstI_miss d p t (fun j hj => h (j + 1) (by simpa using hj))
/-- The first number that is not 0 is among them, or all are 0. -/
theorem firstI_cases {α : Type} (d : α) (p : α → Int) (L : List α) : (∀ j, j < L.length → p (L.getD j d) = 0) ∨ ∃ k, k < L.length ∧ (∀ j, j < k → p (L.getD j d) = 0) ∧ p (L.getD k d) ≠ 0 := by
  rcases first_bad (fun i => decide (p (L.getD i d) = 0)) L.length with h | ⟨j, hj, h1, h2⟩
  · exact .inl fun j hj => by simpa using h j hj
  · exact .inr ⟨j, hj, fun i hi => by simpa using h1 i hi, by simpa using h2⟩

/-- The first field whose tag begins so, or a field without subfields. -/
def firstF (L : List Fld) (t : List UInt8) : Fld := (fieldsL L t).getD 0 fd0
theorem firstF_nil (L : List Fld) (t : List UInt8) (h : (fieldsL L t).length = 0) : firstF L t = fd0 := by
  unfold firstF
  rw [List.eq_nil_of_length_eq_zero h]
  rfl
theorem prefix_tag (t p : List UInt8) (h : t.length = p.length) : p.isPrefixOf t = decide (t = p) := by
  rw [← prefix_take, ← h, List.take_length]
theorem firstF_hit (L : List Fld) (t : List UInt8) (hl : ∀ f ∈ L, f.tag.length = t.length) (k : Nat) (hk : k < L.length) (hj : ∀ j, j < k → (L.getD j fd0).tag ≠ t) (he : (L.getD k fd0).tag = t) : firstF L t = L.getD k fd0 := by
  unfold firstF fieldsL
  have e : ∀ (M : List Fld) (k : Nat), (∀ f ∈ M, f.tag.length = t.length) → k < M.length → (∀ j, j < k → (M.getD j fd0).tag ≠ t) → (M.getD k fd0).tag = t → (M.filter fun f => t.isPrefixOf f.tag).getD 0 fd0 = M.getD k fd0 := by
    intro M
    induction M with
    | nil => intro k _ hk; cases hk
    | cons f s ih =>
      intro k hl hk hj he
      have hp := prefix_tag f.tag t (hl f (by simp))
      cases k with
      | zero =>
        have he : f.tag = t := he
        rw [List.filter_cons, if_pos (by rw [hp]; exact decide_eq_true he)]
        rfl
      | succ k =>
        have h0 : f.tag ≠ t := hj 0 (Nat.succ_pos k)
        rw [List.filter_cons, if_neg (by rw [hp, decide_eq_true_iff]; exact h0)]
        exact ih k (fun f hf => hl f (List.mem_cons_of_mem _ hf)) (by simpa using hk) (fun j hj' => hj (j + 1) (by omega)) he
  exact e L k hl hk hj he
theorem firstF_miss (L : List Fld) (t : List UInt8) (hl : ∀ f ∈ L, f.tag.length = t.length) (hj : ∀ j, j < L.length → (L.getD j fd0).tag ≠ t) : firstF L t = fd0 := by
  unfold firstF fieldsL
  have e : L.filter (fun f => t.isPrefixOf f.tag) = [] := by
    rw [List.filter_eq_nil_iff]
    intro f hf
    rw [prefix_tag f.tag t (hl f hf), decide_eq_true_iff]
    obtain ⟨j, h1, rfl⟩ := List.getElem_of_mem hf
    have := hj j h1
    rwa [List.getD_eq_getElem?_getD, List.getElem?_eq_getElem h1] at this
  rw [e]
  rfl
theorem firstF_cases (L : List Fld) (t : List UInt8) : (∀ j, j < L.length → (L.getD j fd0).tag ≠ t) ∨ ∃ k, k < L.length ∧ (∀ j, j < k → (L.getD j fd0).tag ≠ t) ∧ (L.getD k fd0).tag = t := by
  rcases first_bad (fun i => !decide ((L.getD i fd0).tag = t)) L.length with h | ⟨j, hj, h1, h2⟩
  · exact .inl fun j hj => by simpa using h j hj
  · exact .inr ⟨j, hj, fun i hi => by simpa using h1 i hi, by simpa using h2⟩
theorem firstF_mem (L : List Fld) (t : List UInt8) : firstF L t = fd0 ∨ firstF L t ∈ L := by
  unfold firstF
  by_cases h : (fieldsL L t).length = 0
  · rw [List.eq_nil_of_length_eq_zero h]; exact .inl rfl
  · refine .inr ?_
    have h0 : 0 < (fieldsL L t).length := by omega
    rw [List.getD_eq_getElem?_getD, List.getElem?_eq_getElem h0]
    exact (List.mem_filter.1 (List.getElem_mem h0)).1

theorem allL_small (subs : List Sub) (codes : List UInt8) (h : ∀ i, (subs.getD i sub0).2.length ≤ 1000) (i : Nat) : ((allL subs codes).getD i []).length ≤ 1000000 := by
  by_cases hi : i < (allL subs codes).length
  · rw [List.getD_eq_getElem?_getD, List.getElem?_eq_getElem hi]
    have hm : (allL subs codes)[i] ∈ allL subs codes := List.getElem_mem hi
    unfold allL at hm
    obtain ⟨s, hs, e⟩ := List.mem_map.1 hm
    obtain ⟨j, hj, rfl⟩ := List.getElem_of_mem (List.mem_filter.1 hs).1
    have := h j
    rw [List.getD_eq_getElem?_getD, List.getElem?_eq_getElem hj] at this
    show ((allL subs codes)[i]).length ≤ _
    unfold allL
    rw [← e]
    exact Nat.le_trans this (by decide)
  · rw [List.getD_eq_getElem?_getD, List.getElem?_eq_none (by omega)]
    simp
/-! The title, before its blanks are taken. -/
def titleL (L : List Fld) : List UInt8 := plainL (firstF L [50, 52, 53]).subs [97, 98]

/-! The author. -/
def authorO (L : List Fld) : List (List UInt8) → List UInt8
  | [] => []
  | t :: ts => if (getL (firstF L t).subs 97).2 = true then (getL (firstF L t).subs 97).1 else authorO L ts
def atags : List (List UInt8) := [[49, 48, 48], [49, 49, 48], [55, 48, 48]]
theorem authorO_drop (L : List Fld) (k : Nat) (h : k < atags.length) : authorO L (atags.drop k) = if (getL (firstF L (atags.getD k [])).subs 97).2 = true then (getL (firstF L (atags.getD k [])).subs 97).1 else authorO L (atags.drop (k + 1)) := by
  rw [List.drop_eq_getElem_cons h]
  rw [List.getD_eq_getElem?_getD, List.getElem?_eq_getElem h]
  rfl

/-! The year. -/
def yearOK (n d : Nat) : Int := if d = 4 ∧ 1000 ≤ n ∧ n ≤ 2199 then (n : Int) else 0
def digN (n d : Nat) (x : UInt8) : Nat := if d + 1 ≤ 4 then n * 10 + (x.toNat - 48) else n
def yearB : List UInt8 → Nat → Nat → Int
  | [], n, d => yearOK n d
  | x :: t, n, d => if digB x = true then yearB t (digN n d x) (d + 1) else if yearOK n d ≠ 0 then yearOK n d else yearB t 0 0
def ytagB (t : List UInt8) : Bool := decide (t = [50, 54, 48]) || decide (t = [50, 54, 52])
def yearsV (f : Fld) : Int := firstI (fun v => yearB v 0 0) (allL f.subs [99])
def yearF (f : Fld) : Int := if ytagB f.tag = true then yearsV f else 0
def yearR (L : List Fld) : Int := firstI yearF L
theorem yearOK_range (n d : Nat) : 0 ≤ yearOK n d ∧ yearOK n d ≤ 2199 := by
  unfold yearOK
  split <;> omega
theorem yearB_range : ∀ (l : List UInt8) (n d : Nat), 0 ≤ yearB l n d ∧ yearB l n d ≤ 2199
  | [], n, d => yearOK_range n d
  | x :: t, n, d => by
    unfold yearB
    have := yearOK_range n d
    split
    · exact yearB_range t _ _
    · split
      · exact this
      · exact yearB_range t 0 0
theorem firstI_range {α : Type} (p : α → Int) (h : ∀ a, 0 ≤ p a ∧ p a ≤ 2199) : ∀ L : List α, 0 ≤ firstI p L ∧ firstI p L ≤ 2199
  | [] => by simp [firstI]
  | a :: t => by
    unfold firstI
    have := h a
    have := firstI_range p h t
    split <;> assumption
theorem yearsV_range (f : Fld) : 0 ≤ yearsV f ∧ yearsV f ≤ 2199 := firstI_range _ (fun v => yearB_range v 0 0) _

/-! The subjects. -/
def subjF (f : Fld) : List (List UInt8) :=
  if (allL f.subs [97, 120, 121, 122]).length = 0 then [] else [joinK [45, 45] (allL f.subs [97, 120, 121, 122]) (allL f.subs [97, 120, 121, 122]).length]
def subjO (M : List Fld) : List (List UInt8) := M.flatMap subjF
theorem subjO_snoc (M : List Fld) (k : Nat) (h : k < M.length) : subjO (M.take (k + 1)) = subjO (M.take k) ++ subjF (M.getD k fd0) := by
  rw [List.take_succ_eq_append_getElem h, List.getD_eq_getElem?_getD, List.getElem?_eq_getElem h]
  unfold subjO
  rw [List.flatMap_append, List.flatMap_cons, List.flatMap_nil, List.append_nil]
  rfl
theorem subjO_len : ∀ (M : List Fld), (subjO M).length ≤ M.length
  | [] => by simp [subjO]
  | f :: t => by
    have := subjO_len t
    have e : subjO (f :: t) = subjF f ++ subjO t := by simp [subjO]
    rw [e, List.length_append, List.length_cons]
    unfold subjF
    split <;> simp <;> omega
def subjR (L : List Fld) : List (List UInt8) := subjO (fieldsL L [54])
end

section
open Go.Lib
def digC8 (c : Nat) : Bool := decide (48 ≤ c) && decide (c ≤ 57)
theorem digC8_iff (c : Nat) : digC8 c = true ↔ 48 ≤ c ∧ c ≤ 57 := by simp [digC8]
def dstep (st : List (List Nat) × List Nat) (c : Nat) : List (List Nat) × List Nat := if digC8 c then (st.1, st.2 ++ [c]) else flush st
def dst (cs : List Nat) : List (List Nat) × List Nat := cs.foldl dstep ([], [])
def dwords (cs : List Nat) : List (List Nat) := (flush (dst cs)).1
theorem dst_snoc (cs : List Nat) (c : Nat) : dst (cs ++ [c]) = dstep (dst cs) c := by simp [dst]
theorem dst_take (cs : List Nat) (j : Nat) (h : j < cs.length) : dst (cs.take (j + 1)) = dstep (dst (cs.take j)) cs[j] := by
  rw [List.take_succ_eq_append_getElem h, dst_snoc]
/-- The pieces between spans, as Go's library finds them, are the runs. -/
theorem dspans_T (cs : List Nat) (h : OKs cs) (p : Nat → Bool) (hp : ∀ c ∈ cs, p c = !digC8 c) :
    ∀ (m k f : Nat) (st : Option Nat) (acc : List (Nat × Nat)), m + k = cs.length → m ≤ f →
      (acc.map fun x => (T cs).extract x.1 x.2) = (dst (cs.take k)).1.map T →
      ((st = none ∧ (dst (cs.take k)).2 = []) ∨ ∃ i, i < k ∧ st = some (off cs i) ∧ (dst (cs.take k)).2 = (cs.take k).drop i) →
      ∃ acc' st', spansFromP p (T cs) f (off cs k) st acc = (acc', st') ∧ (acc'.map fun x => (T cs).extract x.1 x.2) = (dst cs).1.map T ∧
        ((st' = none ∧ (dst cs).2 = []) ∨ ∃ i, i < cs.length ∧ st' = some (off cs i) ∧ (dst cs).2 = cs.drop i)
  | 0, k, f, st, acc, hm, hf, ha, hs => by
    have hk : k = cs.length := by omega
    subst hk
    rw [List.take_length] at ha hs
    refine ⟨acc, st, spansFromP_end _ _ _ _ _ _ (by rw [T_off]; omega), ha, hs⟩
  | m + 1, k, f, st, acc, hm, hf, ha, hs => by
    obtain ⟨f, rfl⟩ : ∃ g, f = g + 1 := ⟨f - 1, by omega⟩
    have hk : k < cs.length := by omega
    have hlt := off_lt cs k hk
    unfold spansFromP
    rw [if_pos hlt, decode_T cs h k hk]
    have hw := off_succ cs k hk
    simp only
    rw [← hw]
    have hpc := hp cs[k] (List.getElem_mem hk)
    have hst := dst_take cs k hk
    rw [hpc]
    by_cases hkc : digC8 cs[k] = true
    · have hst2 : dst (cs.take (k + 1)) = ((dst (cs.take k)).1, (dst (cs.take k)).2 ++ [cs[k]]) := by rw [hst]; simp [dstep, hkc]
      rw [hkc]
      simp only [Bool.not_true, Bool.false_eq_true, if_false]
      rcases hs with ⟨rfl, hc⟩ | ⟨i, hi, rfl, hc⟩
      · refine dspans_T cs h p hp m (k + 1) f _ _ (by omega) (by omega) (by rw [hst2]; exact ha) (.inr ⟨k, by omega, rfl, ?_⟩)
        rw [hst2]
        simp only
        rw [hc, List.take_succ_eq_append_getElem hk, List.drop_append_of_le_length (by simp; omega)]
        simp
      · refine dspans_T cs h p hp m (k + 1) f _ _ (by omega) (by omega) (by rw [hst2]; exact ha) (.inr ⟨i, by omega, rfl, ?_⟩)
        rw [hst2]
        simp only
        rw [hc, List.take_succ_eq_append_getElem hk, List.drop_append_of_le_length (by simp; omega)]
    · have hst2 : dst (cs.take (k + 1)) = flush (dst (cs.take k)) := by rw [hst]; simp [dstep, hkc]
      have hkf : digC8 cs[k] = false := by simpa using hkc
      rw [hkf]
      simp only [Bool.not_false, if_true]
      rcases hs with ⟨rfl, hc⟩ | ⟨i, hi, rfl, hc⟩
      · have e : flush (dst (cs.take k)) = ((dst (cs.take k)).1, []) := by unfold flush; rw [if_pos hc]
        refine dspans_T cs h p hp m (k + 1) f _ _ (by omega) (by omega) (by rw [hst2, e]; exact ha) (.inl ⟨rfl, by rw [hst2, e]⟩)
      · have hne : (dst (cs.take k)).2 ≠ [] := by
          rw [hc]
          intro h0
          have := congrArg List.length h0
          simp at this
          omega
        have e : flush (dst (cs.take k)) = ((dst (cs.take k)).1 ++ [(dst (cs.take k)).2], []) := by unfold flush; rw [if_neg hne]
        refine dspans_T cs h p hp m (k + 1) f _ _ (by omega) (by omega) ?_ (.inl ⟨rfl, by rw [hst2, e]⟩)
        rw [hst2, e]
        simp only [List.map_append, List.map_cons, List.map_nil]
        rw [ha, extract_T, hc]
theorem dextract_end (cs : List Nat) (i : Nat) : (T cs).extract (off cs i) (T cs).size = T (cs.drop i) := by
  rw [← T_off, extract_T, List.take_length]
theorem dfields_T (cs : List Nat) (h : OKs cs) (p : Nat → Bool) (hp : ∀ c ∈ cs, p c = !digC8 c) : goFieldsP p (T cs) = (dwords cs).map T := by
  obtain ⟨acc, st, e, h1, h2⟩ := dspans_T cs h p hp cs.length 0 (T cs).size none [] (by omega) (len_le cs) (by simp [dst]) (.inl ⟨rfl, by simp [dst]⟩)
  rw [off_zero] at e
  unfold goFieldsP spansOfP
  rw [e]
  unfold dwords flush
  rcases h2 with ⟨rfl, hc⟩ | ⟨i, hi, rfl, hc⟩
  · rw [if_pos hc]
    exact h1
  · have hne : (dst cs).2 ≠ [] := by
      rw [hc]
      intro h0
      have := congrArg List.length h0
      simp at this
      omega
    rw [if_neg hne]
    unfold closeSpans
    simp only [List.map_append, List.map_cons, List.map_nil]
    rw [h1, dextract_end, hc]
theorem dwords_len (cs : List Nat) : (dwords cs).length ≤ cs.length := by
  have key : ∀ cs : List Nat, (dst cs).1.length + (if (dst cs).2 = [] then 0 else 1) ≤ cs.length := by
    intro cs
    refine snoc_ind (p := fun cs => (dst cs).1.length + (if (dst cs).2 = [] then 0 else 1) ≤ cs.length) (by simp [dst]) ?_ cs
    intro l c ih
    rw [dst_snoc]
    unfold dstep
    split
    · simp only [List.length_append, List.length_singleton]
      split at ih <;> split <;> omega
    · unfold flush
      split
      · rename_i h1 h2
        rw [if_pos h2] at ih
        simp only [List.length_append, List.length_singleton, if_true]
        omega
      · rename_i h1 h2
        rw [if_neg h2] at ih
        simp only [List.length_append, List.length_singleton, if_true]
        omega
  have := key cs
  unfold dwords flush
  split
  · rename_i h; rw [if_pos h] at this; simp only; omega
  · rename_i h; rw [if_neg h] at this; simp only [List.length_append, List.length_singleton]; omega

/-! The year, character by character. -/
def stC (p : Nat × Nat) (c : Nat) : Nat × Nat := (if p.2 + 1 ≤ 4 then p.1 * 10 + (c - 48) else p.1, p.2 + 1)
def runC (w : List Nat) : Nat × Nat := w.foldl stC (0, 0)
theorem runC_snoc (w : List Nat) (c : Nat) : runC (w ++ [c]) = stC (runC w) c := by simp [runC]
theorem runC_len (w : List Nat) : (runC w).2 = w.length := by
  refine snoc_ind (p := fun w => (runC w).2 = w.length) rfl (fun l c ih => ?_) w
  rw [runC_snoc, List.length_append]
  show (runC l).2 + 1 = _
  rw [ih]
  rfl
def yvC (w : List Nat) : Int := yearOK (runC w).1 w.length
def yearC : List Nat → Nat → Nat → Int
  | [], n, d => yearOK n d
  | c :: t, n, d => if digC8 c = true then yearC t (stC (n, d) c).1 (d + 1) else if yearOK n d ≠ 0 then yearOK n d else yearC t 0 0
theorem yearOK_zero : yearOK 0 0 = 0 := rfl
theorem dfold_pre : ∀ (t : List Nat) (ws : List (List Nat)) (cur : List Nat), ∃ more, (flush (t.foldl dstep (ws, cur))).1 = ws ++ more
  | [], ws, cur => by
    show ∃ more, (flush (ws, cur)).1 = ws ++ more
    unfold flush
    split
    · exact ⟨[], by simp⟩
    · exact ⟨[cur], rfl⟩
  | c :: t, ws, cur => by
    rw [List.foldl_cons]
    unfold dstep
    split
    · exact dfold_pre t ws (cur ++ [c])
    · unfold flush
      split
      · exact dfold_pre t ws []
      · obtain ⟨more, h⟩ := dfold_pre t (ws ++ [cur]) []
        exact ⟨[cur] ++ more, by rw [← List.append_assoc]; exact h⟩
theorem firstI_zero {α : Type} (p : α → Int) : ∀ (L M : List α), (∀ x ∈ L, p x = 0) → firstI p (L ++ M) = firstI p M
  | [], _, _ => rfl
  | a :: t, M, h => by
    rw [List.cons_append, firstI, if_neg (fun g => g (h a (by simp)))]
    exact firstI_zero p t M (fun x hx => h x (List.mem_cons_of_mem _ hx))
theorem yearC_words : ∀ (cs : List Nat) (ws : List (List Nat)) (cur : List Nat), (∀ w ∈ ws, yvC w = 0) → yearC cs (runC cur).1 cur.length = firstI yvC (flush (cs.foldl dstep (ws, cur))).1
  | [], ws, cur, h => by
    show yearOK (runC cur).1 cur.length = firstI yvC (flush (ws, cur)).1
    unfold flush
    split
    · rename_i hc
      have hc : cur = [] := hc
      subst hc
      have := firstI_zero yvC ws [] h
      rw [List.append_nil] at this
      rw [this]
      rfl
    · rw [firstI_zero yvC ws _ h]
      show _ = firstI yvC [cur]
      rw [firstI, firstI]
      unfold yvC
      split
      · rfl
      · rename_i hz
        exact Decidable.not_not.1 hz
  | c :: t, ws, cur, h => by
    rw [List.foldl_cons, yearC]
    by_cases hd : digC8 c = true
    · rw [if_pos hd]
      have e : dstep (ws, cur) c = (ws, cur ++ [c]) := by simp [dstep, hd]
      have ih := yearC_words t ws (cur ++ [c]) h
      rw [runC_snoc, List.length_append] at ih
      rw [e, ← ih]
      have : runC cur = ((runC cur).1, cur.length) := by rw [← runC_len]
      rw [this]
      rfl
    · rw [if_neg hd]
      by_cases hc : cur = []
      · subst hc
        have e : dstep (ws, []) c = (ws, []) := by simp [dstep, hd, flush]
        rw [e, if_neg (fun g => g rfl)]
        exact yearC_words t ws [] h
      · have e : dstep (ws, cur) c = (ws ++ [cur], []) := by simp [dstep, hd, flush, hc]
        rw [e]
        by_cases hy : yearOK (runC cur).1 cur.length ≠ 0
        · rw [if_pos hy]
          obtain ⟨more, hm⟩ := dfold_pre t (ws ++ [cur]) []
          rw [hm, List.append_assoc, firstI_zero yvC ws _ h]
          show _ = firstI yvC (cur :: more)
          rw [firstI, if_pos (show yvC cur ≠ 0 from hy)]
          rfl
        · rw [if_neg hy]
          exact yearC_words t (ws ++ [cur]) [] (fun w hw => by
            rcases List.mem_append.1 hw with hw | hw
            · exact h w hw
            · obtain rfl : w = cur := by simpa using hw
              exact Decidable.not_not.1 hy)
theorem yearC_all (cs : List Nat) : yearC cs 0 0 = firstI yvC (dwords cs) := yearC_words cs [] [] (fun w hw => by cases hw)
theorem dwords_dig (cs : List Nat) : ∀ w ∈ dwords cs, ∀ c ∈ w, digC8 c = true := by
  have key : ∀ (cs : List Nat) (ws : List (List Nat)) (cur : List Nat), (∀ w ∈ ws, ∀ c ∈ w, digC8 c = true) → (∀ c ∈ cur, digC8 c = true) → ∀ w ∈ (flush (cs.foldl dstep (ws, cur))).1, ∀ c ∈ w, digC8 c = true := by
    intro cs
    induction cs with
    | nil =>
      intro ws cur h1 h2 w hw
      have hw : w ∈ (flush (ws, cur)).1 := hw
      unfold flush at hw
      split at hw
      · exact h1 w hw
      · rcases List.mem_append.1 hw with hw | hw
        · exact h1 w hw
        · obtain rfl : w = cur := by simpa using hw
          exact h2
    | cons c t ih =>
      intro ws cur h1 h2
      rw [List.foldl_cons]
      unfold dstep
      split
      · rename_i hc
        exact ih ws (cur ++ [c]) h1 (fun d hd => by
          rcases List.mem_append.1 hd with hd | hd
          · exact h2 d hd
          · obtain rfl : d = c := by simpa using hd
            exact hc)
      · unfold flush
        split
        · exact ih ws [] h1 (fun d hd => by cases hd)
        · exact ih (ws ++ [cur]) [] (fun w hw => by
            rcases List.mem_append.1 hw with hw | hw
            · exact h1 w hw
            · obtain rfl : w = cur := by simpa using hw
              exact h2) (fun d hd => by cases hd)
  exact key cs [] [] (fun w hw => by cases hw) (fun c hc => by cases hc)

/-! The bytes of characters. -/
theorem enc_dig (c : Nat) (h : digC8 c = true) : encodeRune (c : Int) = [UInt8.ofNat c] := by
  rw [digC8_iff] at h
  unfold encodeRune
  rw [encodeRuneZ_one (by omega) (by omega)]
  simp
theorem enc_else (c : Nat) (hc : okc c) (h : digC8 c = false) : encodeRune (c : Int) ≠ [] ∧ ∀ b ∈ encodeRune (c : Int), digB b = false := by
  have h : ¬ (48 ≤ c ∧ c ≤ 57) := fun g => by rw [(digC8_iff c).2 g] at h; cases h
  unfold encodeRune
  have one : ∀ z : Int, 0 ≤ z → z < 256 → ¬ (48 ≤ z ∧ z ≤ 57) → digB (z.toNat.toUInt8) = false := by
    intro z h0 h1 h2
    have e0 := toByteNat z h0 h1
    unfold digB
    rw [e0, Bool.and_eq_false_iff]
    by_cases h3 : 48 ≤ z.toNat
    · exact .inr (decide_eq_false (by omega))
    · exact .inl (decide_eq_false h3)
  by_cases h1 : c ≤ 127
  · rw [encodeRuneZ_one (by omega) (by omega)]
    refine ⟨by simp, fun b hb => ?_⟩
    simp only [List.map_cons, List.map_nil, List.mem_singleton] at hb
    subst hb
    exact one _ (by omega) (by omega) (by omega)
  by_cases h2 : c ≤ 2047
  · rw [encodeRuneZ_two (by omega) (by omega)]
    refine ⟨by simp, fun b hb => ?_⟩
    simp only [List.map_cons, List.map_nil, List.mem_cons, List.not_mem_nil, or_false] at hb
    rcases hb with rfl | rfl
    · exact one _ (by omega) (by omega) (by omega)
    · exact one _ (by omega) (by omega) (by omega)
  · rw [encodeRuneZ_three (by unfold okc at hc; omega)]
    refine ⟨by simp, fun b hb => ?_⟩
    unfold okc at hc
    simp only [List.map_cons, List.map_nil, List.mem_cons, List.not_mem_nil, or_false] at hb
    rcases hb with rfl | rfl | rfl
    · exact one _ (by omega) (by omega) (by omega)
    · exact one _ (by omega) (by omega) (by omega)
    · exact one _ (by omega) (by omega) (by omega)
theorem yearB_skip (r : List UInt8) : ∀ (bs : List UInt8) (n d : Nat), bs ≠ [] → (∀ b ∈ bs, digB b = false) → yearB (bs ++ r) n d = if yearOK n d ≠ 0 then yearOK n d else yearB r 0 0
  | [], _, _, h, _ => absurd rfl h
  | b :: t, n, d, _, h => by
    rw [List.cons_append, yearB, if_neg (by rw [h b (by simp)]; decide)]
    by_cases hy : yearOK n d ≠ 0
    · rw [if_pos hy, if_pos hy]
    · rw [if_neg hy, if_neg hy]
      cases t with
      | nil => rfl
      | cons b2 t2 =>
        rw [yearB_skip r (b2 :: t2) 0 0 (by simp) (fun x hx => h x (List.mem_cons_of_mem _ hx)), if_neg (fun g => g rfl)]
theorem yearB_enc : ∀ (cs : List Nat), OKs cs → ∀ n d, yearB (enc cs) n d = yearC cs n d
  | [], _, n, d => rfl
  | c :: t, h, n, d => by
    have hc : okc c := h c (by simp)
    have ht : OKs t := fun x hx => h x (List.mem_cons_of_mem _ hx)
    rw [enc_cons, yearC]
    by_cases hd : digC8 c = true
    · rw [if_pos hd, enc_dig c hd, List.cons_append, List.nil_append, yearB]
      have h1 := (digC8_iff c).1 hd
      have hn : (UInt8.ofNat c).toNat = c := by simp; omega
      rw [if_pos (by rw [digB_iff, hn]; exact h1), yearB_enc t ht]
      unfold digN stC
      rw [hn]
    · have hd' : digC8 c = false := by simpa using hd
      obtain ⟨h1, h2⟩ := enc_else c hc hd'
      rw [if_neg hd, yearB_skip (enc t) _ n d h1 h2, yearB_enc t ht]
theorem yearB_words (cs : List Nat) (h : OKs cs) : yearB (enc cs) 0 0 = firstI yvC (dwords cs) := by rw [yearB_enc cs h, yearC_all]

/-! A run of digits, as the program looks at it. -/
theorem enc_digs : ∀ (w : List Nat), (∀ c ∈ w, digC8 c = true) → enc w = w.map UInt8.ofNat
  | [], _ => rfl
  | c :: t, h => by rw [enc_cons, enc_dig c (h c (by simp)), enc_digs t (fun x hx => h x (List.mem_cons_of_mem _ hx))]; rfl
/-- Four digits. -/
theorem four_digs (w : List Nat) (h : ∀ c ∈ w, digC8 c = true) (hl : w.length = 4) : ∃ a b c d : Nat, (48 ≤ a ∧ a ≤ 57) ∧ (48 ≤ b ∧ b ≤ 57) ∧ (48 ≤ c ∧ c ≤ 57) ∧ (48 ≤ d ∧ d ≤ 57) ∧ enc w = [UInt8.ofNat a, UInt8.ofNat b, UInt8.ofNat c, UInt8.ofNat d] ∧ (runC w).1 = (((a - 48) * 10 + (b - 48)) * 10 + (c - 48)) * 10 + (d - 48) := by
  match w, hl, h with
  | [a, b, c, d], _, h =>
    refine ⟨a, b, c, d, (digC8_iff a).1 (h a (by simp)), (digC8_iff b).1 (h b (by simp)), (digC8_iff c).1 (h c (by simp)), (digC8_iff d).1 (h d (by simp)), enc_digs _ h, ?_⟩
    simp [runC, stC]
theorem u8n (a : Nat) (h : a ≤ 57) : (UInt8.ofNat a).toNat = a := by simp; omega
theorem u8_eqn (x y : UInt8) : (x == y) = decide (x.toNat = y.toNat) := by
  rw [Bool.eq_iff_iff, decide_eq_true_iff, UInt8.toNat_inj]
  simp
/-- The program's three tests come to the same year. -/
theorem run_year (w : List Nat) (h : ∀ c ∈ w, digC8 c = true) (hl : w.length = 4) :
    (Op.bytesLess [49, 48, 48, 48] (enc w) || ([49, 48, 48, 48] : List UInt8) == enc w) = decide (1000 ≤ (runC w).1) ∧ (Op.bytesLess (enc w) [50, 49, 57, 57] || enc w == ([50, 49, 57, 57] : List UInt8)) = decide ((runC w).1 ≤ 2199) ∧ atoiV (enc w) = ((runC w).1 : Int) := by
  obtain ⟨a, b, c, d, ha, hb, hc, hd, he, hr⟩ := four_digs w h hl
  rw [he, hr]
  have na := u8n a ha.2
  have nb := u8n b hb.2
  have nc := u8n c hc.2
  have nd := u8n d hd.2
  have l48 : UInt8.toNat 48 = 48 := rfl
  have l49 : UInt8.toNat 49 = 49 := rfl
  have l50 : UInt8.toNat 50 = 50 := rfl
  have l57 : UInt8.toNat 57 = 57 := rfl
  have hn : ((([] : List UInt8) == ([] : List UInt8)) = true) = True := by simp
  refine ⟨?_, ?_, ?_⟩
  · rw [Bool.eq_iff_iff]
    simp only [Op.bytesLess, List.cons_beq_cons, u8_eqn, UInt8.lt_iff_toNat_lt, na, nb, nc, nd, l48, l49, Bool.or_eq_true, Bool.and_eq_true, decide_eq_true_iff, Bool.false_eq_true, hn, and_false, or_false, and_true]
    constructor
    · intro h; omega
    · intro h; omega
  · rw [Bool.eq_iff_iff]
    simp only [Op.bytesLess, List.cons_beq_cons, u8_eqn, UInt8.lt_iff_toNat_lt, na, nb, nc, nd, l49, l50, l57, Bool.or_eq_true, Bool.and_eq_true, decide_eq_true_iff, Bool.false_eq_true, hn, and_false, or_false, and_true]
    constructor
    · intro h; omega
    · intro h; omega
  · have hm : Lib.parseMag [UInt8.ofNat a, UInt8.ofNat b, UInt8.ofNat c, UInt8.ofNat d] = .ok ((((a - 48) * 10 + (b - 48)) * 10 + (c - 48)) * 10 + (d - 48)) := by
      unfold Lib.parseMag
      rw [if_neg (by simp)]
      rw [Lib.parseUint10, na, if_pos ha, if_neg (by omega), if_neg (by omega), Lib.parseUint10, nb, if_pos hb, if_neg (by omega), if_neg (by omega), Lib.parseUint10, nc, if_pos hc, if_neg (by omega), if_neg (by omega), Lib.parseUint10, nd, if_pos hd, if_neg (by omega), if_neg (by omega), Lib.parseUint10, Nat.zero_mul, Nat.zero_add]
    unfold atoiV Lib.atoiAll
    have n1 : ¬ ((UInt8.ofNat a).toNat = 43 ∨ (UInt8.ofNat a).toNat = 45) := by rw [na]; omega
    have n2 : ¬ (UInt8.ofNat a).toNat = 45 := by rw [na]; omega
    simp only [if_neg n1, hm]
    rw [if_neg (by omega), if_neg (by omega), if_neg n2]
end

end Go.Proofs.YtfjfpefpdlecbaaGreatDoor
