/- Package barcode: Issn. -/
import Derived.Test.YtnbjgkhngolhfaaDoorBN05
namespace Go.Proofs.YtnbjgkhngolhfaaDoor
open Go.RowKit Go.PlainAid

set_option maxHeartbeats 16000000 in
set_option maxRecDepth 100000 in
theorem barIssn_hyphen (l : List UInt8) (h9 : l.length = 9) (h45 : l.getD 4 0 = 45) (r : List UInt8) (er : Int) (hx : issnT (l.take 4 ++ l.drop 5) = (r, er)) (w : World) :
    Calls Tryd.prog 21 #[.string (S l)] w fun e w' => e = .returned (.tuple #[.string (S r), .int .i64 er]) ∧ Below w.heap.size w w' := by
  have hbt := get_bt (S l)
  have hsz : (S l).size = 9 := by rw [S_size, h9]
  have t2 : (bt (S l) 4 == 45) = true := (byte_at l 4 45).trans (decide_eq_true h45)
  have t3 : bt (S l) 4 = 45 := by simpa using t2
  obtain ⟨t, ht⟩ : ∃ t, l.take 4 ++ l.drop 5 = t := ⟨_, rfl⟩
  have hst : (S l).extract 0 4 ++ (S l).extract 5 9 = S t := by
    rw [S_extract, S_extract, ← h9, List.take_length, S_append, ← ht]
    rfl
  have z1 : ((S l).extract 0 4).size = 4 := by simp [hsz]
  have z2 : ((S l).extract 5 9).size = 4 := by simp [hsz]
  rw [ht] at hx
  have ht8 : t.length = 8 := by rw [← ht, List.length_append, List.length_take, List.length_drop]; omega
  have hu : (S t).size = 8 := by rw [S_size, ht8]
  have f1 : (S t).extract 0 4 = S (t.take 4) := by rw [S_extract]; rfl
  have f2 : (S t).extract 4 8 = S (t.drop 4) := by rw [S_extract, ← ht8, List.take_length]
  have f3 : S (t.take 4) ++ (⟨#[45]⟩ : ByteArray) ++ S (t.drop 4) = S (t.take 4 ++ [45] ++ t.drop 4) := by rw [show (⟨#[45]⟩ : ByteArray) = S [45] from rfl, S_append, S_append]
  have z3 : (S (t.take 4)).size = 4 := by rw [S_size, List.length_take]; omega
  have z4 : (S (t.drop 4)).size = 4 := by rw [S_size, List.length_drop]; omega
  have hwl := wS_le t (by omega)
  unfold issnT at hx
  have b0 := Below.refl w.heap.size w
  cases he : endedB t
  · have c1 := Lib.hid (fun W => barnumd_any t (by omega) (by omega) false he W)
    rw [if_neg (fun h => by rw [he] at h; cases h.2)] at hx
    simp only [Prod.mk.injEq] at hx
    obtain ⟨rfl, rfl⟩ := hx
    rw [show S [] = (⟨#[]⟩ : ByteArray) from rfl]
    clear f1 f2 f3 z3 z4 he ht
    generalize S t = u at *
    generalize S l = s at *
    go_enter Tryd.func21, Tryd.ntmps21
    go_wp2
    go_region
    go_wp2_with fail
    refine (c1.out _).mono ?_
    rintro e w1 ⟨rfl, rfl⟩
    go_wp2
    go_ret2
    exact ⟨rfl, ⟨b0.os, b0.tape, b0.output, b0.size, b0.block⟩⟩
  · have c1 := Lib.hid (fun W => barnumd_any t (by omega) (by omega) true he W)
    have c2 := Lib.hid (fun W => barwei_any t (by omega) he W)
    rw [if_pos ⟨ht8, he⟩] at hx
    obtain ⟨wq, hwq⟩ : ∃ wq, wS t = wq := ⟨_, rfl⟩
    rw [hwq] at hx c2 hwl
    have m1 : Int.tmod (wq : Int) 11 = ((wq % 11 : Nat) : Int) := by rw [Int.tmod_eq_emod_of_nonneg (by omega)]; omega
    have m2 : (wq : Int) % 11 = ((wq % 11 : Nat) : Int) := by omega
    by_cases h11 : wq % 11 = 0
    · rw [if_pos h11] at hx
      simp only [Prod.mk.injEq] at hx
      obtain ⟨rfl, rfl⟩ := hx
      rw [h11] at m1 m2
      rw [← f3]
      clear hwq he ht h11 f3
      generalize S (t.take 4) = a at *
      generalize S (t.drop 4) = b at *
      generalize S t = u at *
      generalize S l = s at *
      go_enter Tryd.func21, Tryd.ntmps21
      go_wp2
      go_region
      go_wp2_with fail
      refine (c1.out _).mono ?_
      rintro e w1 ⟨rfl, rfl⟩
      go_wp2_with fail
      refine (c2.out _).mono ?_
      rintro e w1 ⟨rfl, rfl⟩
      go_wp2
      go_region
      go_wp2
      go_ret2
      exact ⟨rfl, ⟨b0.os, b0.tape, b0.output, b0.size, b0.block⟩⟩
    · rw [if_neg h11] at hx
      simp only [Prod.mk.injEq] at hx
      obtain ⟨rfl, rfl⟩ := hx
      rw [show S [] = (⟨#[]⟩ : ByteArray) from rfl]
      have t5 : (((wq % 11 : Nat) : Int) != 0) = true := by simp; omega
      clear f1 f2 f3 z3 z4 he ht hwq h11
      generalize wq % 11 = q at *
      generalize S t = u at *
      generalize S l = s at *
      go_enter Tryd.func21, Tryd.ntmps21
      go_wp2
      go_region
      go_wp2_with fail
      refine (c1.out _).mono ?_
      rintro e w1 ⟨rfl, rfl⟩
      go_wp2_with fail
      refine (c2.out _).mono ?_
      rintro e w1 ⟨rfl, rfl⟩
      go_wp2
      go_ret2
      exact ⟨rfl, ⟨b0.os, b0.tape, b0.output, b0.size, b0.block⟩⟩

set_option maxHeartbeats 16000000 in
set_option maxRecDepth 100000 in
theorem barIssn_plain (l : List UInt8) (hz : l.length ≤ 1000000) (h9 : ¬ (l.length = 9 ∧ l.getD 4 0 = 45)) (r : List UInt8) (er : Int) (hx : issnT l = (r, er)) (w : World) :
    Calls Tryd.prog 21 #[.string (S l)] w fun e w' => e = .returned (.tuple #[.string (S r), .int .i64 er]) ∧ Below w.heap.size w w' := by
  have hbt := get_bt (S l)
  obtain ⟨n, hn⟩ : ∃ n, l.length = n := ⟨_, rfl⟩
  have hsz : (S l).size = n := by rw [S_size, hn]
  have b0 := Below.refl w.heap.size w
  unfold issnT at hx
  by_cases h8 : n = 8
  · have t1 : ((n : Int) == 9) = false := by rw [h8]; rfl
    have t2 : ((n : Int) != 8) = false := by rw [h8]; rfl
    have hsz : (S l).size = 8 := by rw [S_size, hn, h8]
    have ht8 : l.length = 8 := by omega
    have f1 : (S l).extract 0 4 = S (l.take 4) := by rw [S_extract]; rfl
    have f2 : (S l).extract 4 8 = S (l.drop 4) := by rw [S_extract, ← ht8, List.take_length]
    have f3 : S (l.take 4) ++ (⟨#[45]⟩ : ByteArray) ++ S (l.drop 4) = S (l.take 4 ++ [45] ++ l.drop 4) := by rw [show (⟨#[45]⟩ : ByteArray) = S [45] from rfl, S_append, S_append]
    have z3 : (S (l.take 4)).size = 4 := by rw [S_size, List.length_take]; omega
    have z4 : (S (l.drop 4)).size = 4 := by rw [S_size, List.length_drop]; omega
    have hwl := wS_le l (by omega)
    clear h9
    cases he : endedB l
    · have c1 := Lib.hid (fun W => barnumd_any l (by omega) (by omega) false he W)
      rw [if_neg (fun h => by rw [he] at h; cases h.2)] at hx
      simp only [Prod.mk.injEq] at hx
      obtain ⟨rfl, rfl⟩ := hx
      rw [show S [] = (⟨#[]⟩ : ByteArray) from rfl]
      clear f1 f2 f3 z3 z4 he
      generalize S l = s at *
      go_enter Tryd.func21, Tryd.ntmps21
      go_wp2_with fail
      refine (c1.out _).mono ?_
      rintro e w1 ⟨rfl, rfl⟩
      go_wp2
      go_ret2
      exact ⟨rfl, b0⟩
    · have c1 := Lib.hid (fun W => barnumd_any l (by omega) (by omega) true he W)
      have c2 := Lib.hid (fun W => barwei_any l (by omega) he W)
      rw [if_pos ⟨ht8, he⟩] at hx
      obtain ⟨wq, hwq⟩ : ∃ wq, wS l = wq := ⟨_, rfl⟩
      rw [hwq] at hx c2 hwl
      have m1 : Int.tmod (wq : Int) 11 = ((wq % 11 : Nat) : Int) := by rw [Int.tmod_eq_emod_of_nonneg (by omega)]; omega
      have m2 : (wq : Int) % 11 = ((wq % 11 : Nat) : Int) := by omega
      by_cases h11 : wq % 11 = 0
      · rw [if_pos h11] at hx
        simp only [Prod.mk.injEq] at hx
        obtain ⟨rfl, rfl⟩ := hx
        rw [h11] at m1 m2
        rw [← f3]
        clear hwq he h11 f3
        generalize S (l.take 4) = a at *
        generalize S (l.drop 4) = b at *
        generalize S l = s at *
        go_enter Tryd.func21, Tryd.ntmps21
        go_wp2_with fail
        refine (c1.out _).mono ?_
        rintro e w1 ⟨rfl, rfl⟩
        go_wp2_with fail
        refine (c2.out _).mono ?_
        rintro e w1 ⟨rfl, rfl⟩
        go_wp2
        go_region
        go_wp2
        go_ret2
        exact ⟨rfl, ⟨b0.os, b0.tape, b0.output, b0.size, b0.block⟩⟩
      · rw [if_neg h11] at hx
        simp only [Prod.mk.injEq] at hx
        obtain ⟨rfl, rfl⟩ := hx
        rw [show S [] = (⟨#[]⟩ : ByteArray) from rfl]
        have t5 : (((wq % 11 : Nat) : Int) != 0) = true := by simp; omega
        clear f1 f2 f3 z3 z4 he hwq h11
        generalize wq % 11 = q at *
        generalize S l = s at *
        go_enter Tryd.func21, Tryd.ntmps21
        go_wp2_with fail
        refine (c1.out _).mono ?_
        rintro e w1 ⟨rfl, rfl⟩
        go_wp2_with fail
        refine (c2.out _).mono ?_
        rintro e w1 ⟨rfl, rfl⟩
        go_wp2
        go_ret2
        exact ⟨rfl, b0⟩
  · rw [if_neg (fun h => h8 (by omega))] at hx
    simp only [Prod.mk.injEq] at hx
    obtain ⟨rfl, rfl⟩ := hx
    rw [show S [] = (⟨#[]⟩ : ByteArray) from rfl]
    have t2 : ((n : Int) != 8) = true := by simp; omega
    by_cases h : n = 9
    · have t1 : ((n : Int) == 9) = true := by rw [h]; rfl
      have t3 : (bt (S l) 4 == 45) = false := (byte_at l 4 45).trans (decide_eq_false (fun h2 => h9 ⟨by omega, h2⟩))
      have i1 : (4 : Int) < (n : Int) := by omega
      have n1 : 4 < n := by omega
      clear h9 h h8
      generalize S l = s at *
      go_enter Tryd.func21, Tryd.ntmps21
      go_wp2
      go_ret2
      exact ⟨rfl, b0⟩
    · have t1 : ((n : Int) == 9) = false := by simp; omega
      clear h9
      generalize S l = s at *
      go_enter Tryd.func21, Tryd.ntmps21
      go_wp2
      go_ret2
      exact ⟨rfl, b0⟩

theorem barIssn_any (l : List UInt8) (hz : l.length ≤ 1000000) (r : List UInt8) (er : Int) (hx : issnI l = (r, er)) (w : World) :
    Calls Tryd.prog 21 #[.string (S l)] w fun e w' => e = .returned (.tuple #[.string (S r), .int .i64 er]) ∧ Below w.heap.size w w' := by
  unfold issnI at hx
  by_cases h : l.length = 9 ∧ l.getD 4 0 = 45
  · rw [if_pos h] at hx
    exact barIssn_hyphen l h.1 h.2 r er hx w
  · rw [if_neg h] at hx
    exact barIssn_plain l hz h r er hx w
end Go.Proofs.YtnbjgkhngolhfaaDoor
