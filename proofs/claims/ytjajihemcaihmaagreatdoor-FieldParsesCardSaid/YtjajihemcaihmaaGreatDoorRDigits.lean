/- libraryref01.Digits (over lib/XByS). -/
import Derived.Test.YtjajihemcaihmaaGreatDoorByS
import Derived.Lib.ItoaNum
import Derived.Lib.Itoa
namespace Go.Proofs.YtjajihemcaihmaaGreatDoor
open Go.RowKit

theorem dec1 (n : Nat) (h : n < 10) : Lib.decDigits n = [dgt n] := by rw [Lib.decDigits, dif_pos h]; rfl
theorem decS (n : Nat) (h : ¬ n < 10) : Lib.decDigits n = Lib.decDigits (n / 10) ++ [dgt (n % 10)] := by rw [Lib.decDigits, dif_neg h]; rfl
theorem dec_pos (n : Nat) : 0 < (Lib.decDigits n).length := by
  by_cases h : n < 10
  · rw [dec1 n h]; exact Nat.one_pos
  · rw [decS n h]; simp
theorem dec_bound : ∀ n, (Lib.decDigits n).length ≤ n + 1 := by
  intro n
  induction n using Nat.strongRecOn with
  | ind n ih =>
    by_cases h : n < 10
    · rw [dec1 n h]; simp
    · rw [decS n h]
      have := ih (n / 10) (by omega)
      simp
      omega
/-- Zeros in front, up to a width. -/
def padL (k : Nat) (l : List UInt8) : List UInt8 := List.replicate (k - l.length) 48 ++ l

theorem digit_at : ∀ r, r < 10 → (ByteArray.mk #[48, 49, 50, 51, 52, 53, 54, 55, 56, 57]).extract r (r + 1) = S [dgt r] := by decide +kernel
def strL : Value → Nat
  | .string s => s.size
  | _ => 0
def strZ : Value → Nat
  | .string s => if s.size = 0 then 1 else 0
  | _ => 0

set_option maxHeartbeats 8000000 in
set_option maxRecDepth 100000 in
theorem refDigits_any (n k : Nat) (hn : n ≤ 100000000) (hk : k ≤ 100) (w : World) :
    Calls Tryz.prog 38 #[.int .i64 (n : Int), .int .i64 (k : Int)] w fun e w' => e = .returned (.string (S (padL k (Lib.decDigits n)))) ∧ w' = w := by
  have hb := dec_bound n
  go_enter Tryz.func38, Tryz.ntmps38
  go_wp2
  go_loopw [0, 6] (fun v o wr => ∃ m l, v = .int .i64 (m : Nat) ∧ o = .string (S l) ∧ m ≤ n ∧ l.length ≤ (Lib.decDigits n).length ∧ ((l = [] ∧ m = n) ∨ (l ≠ [] ∧ m = 0 ∧ l = Lib.decDigits n) ∨ (l ≠ [] ∧ m ≠ 0 ∧ Lib.decDigits m ++ l = Lib.decDigits n)) ∧ wr = w) (fun v o _ => (intOf v).toNat + strZ o)
  case atStart => exact ⟨n, [], rfl, rfl, Nat.le_refl _, Nat.zero_le _, .inl ⟨rfl, rfl⟩, rfl⟩
  case round =>
    obtain ⟨m, l, rfl, rfl, hm, hl, hc, rfl⟩ := hrel
    have hsz : (S l).size ≤ 100000001 := by rw [S_size]; omega
    have r1 : Int.tmod (m : Int) 10 = ((m % 10 : Nat) : Int) := by rw [Int.tmod_eq_emod_of_nonneg (by omega)]; omega
    have r2 : (m : Int) % 10 = ((m % 10 : Nat) : Int) := by omega
    have q1 : Int.tdiv (m : Int) 10 = ((m / 10 : Nat) : Int) := by rw [Int.tdiv_eq_ediv_of_nonneg (by omega)]; omega
    have q2 : (m : Int) / 10 = ((m / 10 : Nat) : Int) := by omega
    have hr := digit_at (m % 10) (by omega)
    have hr9 : m % 10 ≤ 9 := by omega
    have hq9 : m / 10 ≤ 100000000 := by omega
    by_cases h0 : 0 < m
    · have d0 : decide ((0 : Int) < (m : Int)) = true := by simp; omega
      have HN : RowKit.Hid (∃ l', S [dgt (m % 10)] ++ S l = S l' ∧ l' ≠ [] ∧ l'.length ≤ (Lib.decDigits n).length ∧ ((m / 10 = 0 ∧ l' = Lib.decDigits n) ∨ (m / 10 ≠ 0 ∧ Lib.decDigits (m / 10) ++ l' = Lib.decDigits n))) := by
        refine ⟨_, S_append _ _, by simp, ?_, ?_⟩
        · have hx : Lib.decDigits m ++ l = Lib.decDigits n := by
            rcases hc with ⟨rfl, rfl⟩ | ⟨_, h1, _⟩ | ⟨_, _, h1⟩
            · simp
            · omega
            · exact h1
          rw [← hx, List.length_append]
          have := dec_pos m
          simp
          omega
        · have hx : Lib.decDigits m ++ l = Lib.decDigits n := by
            rcases hc with ⟨rfl, rfl⟩ | ⟨_, h1, _⟩ | ⟨_, _, h1⟩
            · simp
            · omega
            · exact h1
          by_cases h1 : m < 10
          · refine .inl ⟨by omega, ?_⟩
            rw [← hx, dec1 m h1, show m % 10 = m by omega]
          · refine .inr ⟨by omega, ?_⟩
            rw [← hx, decS m h1, List.append_assoc]
      have hms : RowKit.Hid (m / 10 < m) := by unfold RowKit.Hid; omega
      have HM := Lib.hid hm
      clear hc hm
      generalize m % 10 = r at r1 r2 hr hr9 HN
      generalize m / 10 = q at q1 q2 HN hms hq9
      have i0 : (0 : Int) ≤ (r : Int) := by omega
      have hz : (S [dgt r]).size = 1 := rfl
      have i1 : (r : Int) + 1 ≤ 10 := by omega
      have i2 : (r : Int) ≤ (r : Int) + 1 := by omega
      go_wp2
      go_roundw
      case rel =>
        obtain ⟨l', e1, e2, e3, e4⟩ := HN.out
        refine ⟨q, l', by go_num, ?_, by have := HM.out; have := hms.out; omega, e3, ?_, trivial⟩
        · rw [e1]
        · rcases e4 with ⟨h1, h2⟩ | ⟨h1, h2⟩
          · exact .inr (.inl ⟨e2, h1, h2⟩)
          · exact .inr (.inr ⟨e2, h1, h2⟩)
      case measure =>
        have := hms.out
        have e0 : (S [dgt r] ++ S l).size ≠ 0 := by rw [ByteArray.size_append, hz]; omega
        simp only [intOf, strZ, if_neg e0, Int.toNat_natCast]
        omega
    · have hm0 : m = 0 := by omega
      subst hm0
      have hr0 := digit_at 0 (by decide)
      by_cases hl0 : l = []
      · subst hl0
        have hn0 : n = 0 := by
          rcases hc with ⟨_, h⟩ | ⟨h, _⟩ | ⟨h, _⟩
          · exact h.symm
          · exact absurd rfl h
          · exact absurd rfl h
        have HN : RowKit.Hid ([dgt 0] = Lib.decDigits n) := by rw [hn0]; exact (dec1 0 (by decide)).symm
        clear hc hr hn0
        rw [show S [] = (⟨#[]⟩ : ByteArray) from rfl]
        go_wp2
        go_roundw
        case rel =>
          refine ⟨0, [dgt 0], rfl, ?_, Nat.zero_le _, ?_, .inr (.inl ⟨by simp, rfl, HN.out⟩), trivial⟩
          · first | rfl | trace_state
          · rw [← HN.out]; exact Nat.le_refl _
        case measure =>
          have e0 : (S [dgt 0] ++ (⟨#[]⟩ : ByteArray)).size ≠ 0 := by rw [ByteArray.size_append, show (S [dgt 0]).size = 1 from rfl]; omega
          simp only [strZ, if_neg e0]
          decide
      · have hd : l = Lib.decDigits n := by
          rcases hc with ⟨h, _⟩ | ⟨_, _, h⟩ | ⟨_, h, _⟩
          · exact absurd h hl0
          · exact h
          · exact absurd rfl h
        obtain ⟨f1, f2⟩ := S_facts l hl0
        have HD := Lib.hid hd
        clear hc hr hd hl0
        go_wp2
        go_loopw [6] (fun o wx => ∃ j, j ≤ k - l.length ∧ o = .string (S (List.replicate j 48 ++ l)) ∧ wx = wr) (fun o _ => k + 1 - strL o)
        case atStart => exact ⟨0, Nat.zero_le _, by rw [List.replicate_zero, List.nil_append], rfl⟩
        case round =>
          obtain ⟨j, hj, rfl, rfl⟩ := hrel
          have hz : (S (List.replicate j (48 : UInt8) ++ l)).size = j + l.length := by rw [S_size]; simp
          have HS : RowKit.Hid ((⟨#[48]⟩ : ByteArray) ++ S (List.replicate j (48 : UInt8) ++ l) = S (List.replicate (j + 1) 48 ++ l)) := S_append [48] _
          have HJ : RowKit.Hid (j = k - l.length → S (List.replicate j (48 : UInt8) ++ l) = S (padL k (Lib.decDigits n))) := by
            intro h
            unfold padL
            rw [h, ← HD.out]
          generalize S (List.replicate j (48 : UInt8) ++ l) = t at hz HS HJ
          have hll : l.length ≤ 100000001 := by omega
          by_cases h1 : j + l.length < k
          · have d1 : decide (((j + l.length : Nat) : Int) < (k : Int)) = true := by simp; omega
            go_wp2
            go_roundw
            case rel => exact ⟨j + 1, by omega, by rw [HS.out], trivial⟩
            case measure =>
              have e5 : ((⟨#[48]⟩ : ByteArray) ++ t).size = 1 + t.size := ByteArray.size_append
              simp only [strL, e5, hz]
              omega
          · have d1 : decide (((j + l.length : Nat) : Int) < (k : Int)) = false := by simp; omega
            go_wp2
            go_ret
            rw [HJ.out (by omega)]
            exact ⟨rfl, rfl⟩
end Go.Proofs.YtjajihemcaihmaaGreatDoor
