/- libraryref07: Tag, Get. -/
import Derived.Test.YtjajihemcaihmaaDoorR07A
namespace Go.Proofs.YtjajihemcaihmaaDoor
open Go.RowKit Go.PlainAid

/-- A text of three digits or so, against 010. -/
theorem less_three (l : List UInt8) (h3 : l.length = 3) (h0 : 48 ≤ (l.getD 0 0).toNat) (h1 : 48 ≤ (l.getD 1 0).toNat) (h2 : 48 ≤ (l.getD 2 0).toNat) : Op.bytesLess l [48, 49, 48] = (decide (l.getD 0 0 = 48) && decide (l.getD 1 0 = 48)) := by
  match l, h3 with
  | [a, b, c], _ =>
    have g0 : 48 ≤ a.toNat := h0
    have g1 : 48 ≤ b.toNat := h1
    have g2 : 48 ≤ c.toNat := h2
    have na : ¬ a < 48 := fun k => by have := UInt8.lt_iff_toNat_lt.1 k; simp at this; omega
    have nc : ¬ c < 48 := fun k => by have := UInt8.lt_iff_toNat_lt.1 k; simp at this; omega
    have nb : (b < 49) ↔ b = 48 := by
      rw [UInt8.lt_iff_toNat_lt, ← UInt8.toNat_inj]
      simp
      omega
    show (decide (a < 48) || (a == 48 && (decide (b < 49) || (b == 49 && (decide (c < 48) || (c == 48 && false)))))) = _
    rw [decide_eq_false na, decide_eq_false nc]
    simp [nb]
    rw [show (a == 48) = decide (a = 48) from rfl]

set_option maxHeartbeats 8000000 in
theorem refGet_any (f : Fld) (u : Value) (w : World) (hu : QL u f.subs w) (c : UInt8) (r : List UInt8) (b : Bool) (hb : getL f.subs c = (r, b)) :
    Calls Tryd.prog 16 #[FV f u, .int .u8 (c.toNat : Int)] w fun e w' => e = .returned (.tuple #[.string (S r), .bool b]) ∧ Below w.heap.size w w' := by
  obtain ⟨a, cap, rfl, hcap, hmax, _, hcell⟩ := hu
  unfold maxLen at hmax
  unfold FV
  obtain ⟨n, hn⟩ : ∃ n, f.subs.length = n := ⟨_, rfl⟩
  have HCell := Lib.hid hcell
  rw [hn] at hcap ⊢
  have HN := Lib.hid hn
  have HB := Lib.hid hb
  clear hcell hn hb
  have b0 := (Below.refl w.heap.size w).alloc (Nat.le_refl _) (.cells #[.string (S f.tag), .string (S f.ind), .slice a n cap, .int .i64 f.auth] 24)
  have k2 : (w.alloc (.cells #[.string (S f.tag), .string (S f.ind), .slice a n cap, .int .i64 f.auth] 24)).cell? ⟨w.heap.size, 2, none⟩ = some (.slice a n cap) := by simp
  go_enter Tryd.func16, Tryd.ntmps16
  go_wp2
  go_loopw [6] (fun i wr => ∃ k : Nat, k ≤ n ∧ i = .int .i64 (k : Int) ∧ RowKit.Hid (∀ j, j < k → (f.subs.getD j sub0).1 ≠ c) ∧ wr = w.alloc (.cells #[.string (S f.tag), .string (S f.ind), .slice a n cap, .int .i64 f.auth] 24)) (fun i _ => n - (intOf i).toNat)
  case atStart => exact ⟨0, Nat.zero_le _, rfl, (fun j hj => by omega), rfl⟩
  case round =>
    obtain ⟨k, hk, rfl, HJ, rfl⟩ := hrel
    by_cases hkn : k < n
    · obtain ⟨g, o, rfl, hg, c1, c2⟩ := HCell.out k (by rw [HN.out]; exact hkn)
      have c1 := (b0.cell (p := ⟨g, o + k * 2, none⟩) hg).trans c1
      have c2 := (b0.cell (p := ⟨g, o + k * 2 + 1, none⟩) hg).trans c2
      have i1 : (0 : Int) ≤ (k : Int) := by omega
      have i2 : (k : Int) < (n : Int) := by omega
      by_cases he : (f.subs.getD k sub0).1 = c
      · have hx : ((((f.subs.getD k sub0).1.toNat : Nat) : Int)) = (c.toNat : Int) := by rw [he]
        have hr := HB.out
        rw [getL_hit f.subs c k (by rw [HN.out]; exact hkn) HJ.out he] at hr
        simp only [Prod.mk.injEq] at hr
        obtain ⟨hr1, rfl⟩ := hr
        rw [hx] at c1
        rw [hr1] at c2
        clear he HJ hx HB hr1
        generalize ((c.toNat : Nat) : Int) = y at *
        go_wp2
        go_ret2
        exact ⟨rfl, b0⟩
      · have t1 : ((((f.subs.getD k sub0).1.toNat : Nat) : Int) == (c.toNat : Int)) = false := by
          have : (f.subs.getD k sub0).1.toNat ≠ c.toNat := fun h => he (UInt8.toNat_inj.1 h)
          exact beq_eq_false_iff_ne.2 (fun h => this (by omega))
        have HJ2 : RowKit.Hid (∀ j, j < k + 1 → (f.subs.getD j sub0).1 ≠ c) := by
          intro j hj
          rcases Nat.lt_or_ge j k with h | h
          · exact HJ.out j h
          · rw [show j = k by omega]; exact he
        clear he HJ c2
        generalize (((f.subs.getD k sub0).1.toNat : Nat) : Int) = x at *
        generalize ((c.toNat : Nat) : Int) = y at *
        go_wp2
        go_roundw
        case rel => exact ⟨k + 1, by omega, by go_num, HJ2, trivial⟩
        case measure => simp [intOf]; omega
    · obtain rfl : k = n := by omega
      have hr := HB.out
      rw [getL_miss f.subs c (fun j hj => HJ.out j (by rw [HN.out] at hj; exact hj))] at hr
      simp only [Prod.mk.injEq] at hr
      obtain ⟨rfl, rfl⟩ := hr
      clear HB HJ
      generalize ((c.toNat : Nat) : Int) = y at *
      go_wp2
      go_ret2
      exact ⟨rfl, b0⟩
end Go.Proofs.YtjajihemcaihmaaDoor
