/- slices.Max and slices.Index at a row of integers. -/
import Derived.Test.YtbemenflkebpnaaDoorPair
import Derived.Test.YtbemenflkebpnaaDoorR04A
import Derived.Laws.Small
namespace Go.Proofs.YtbemenflkebpnaaDoor
open Go.RowKit

/-- The first one of the greatest. -/
theorem first_max (R : Nat → Int) : ∀ n, 0 < n → ∃ b, b < n ∧ ∀ j, j < n → R j ≤ R b ∧ (j < b → R j < R b)
  | 0, h => by omega
  | n + 1, _ => by
    rcases Nat.eq_zero_or_pos n with h0 | h0
    · subst h0
      refine ⟨0, by omega, fun j hj => ?_⟩
      obtain rfl : j = 0 := by omega
      exact ⟨Int.le_refl _, fun h => by omega⟩
    · obtain ⟨b, hb, hf⟩ := first_max R n h0
      by_cases h : R b < R n
      · refine ⟨n, by omega, fun j hj => ?_⟩
        rcases Nat.lt_or_ge j n with h1 | h1
        · have := (hf j h1).1
          exact ⟨by omega, fun _ => by omega⟩
        · obtain rfl : j = n := by omega
          exact ⟨Int.le_refl _, fun h => by omega⟩
      · refine ⟨b, by omega, fun j hj => ?_⟩
        rcases Nat.lt_or_ge j n with h1 | h1
        · exact hf j h1
        · obtain rfl : j = n := by omega
          exact ⟨by omega, fun h => by omega⟩

set_option maxHeartbeats 8000000 in
theorem slIndex_any (v : Value) (l : List Int) (w : World) (hv : IL v l w) (hz : l.length ≤ 1000000) (b : Nat) (x : Int) (hb : l[b]? = some x) (hn : ∀ i : Nat, i < b → ∀ y, l[i]? = some y → y ≠ x) :
    Calls Tryd.prog 23 #[v, .int .i64 x] w fun e w' => e = .returned (.int .i64 (b : Int)) ∧ w' = w := by
  obtain ⟨a, cap, rfl, hc, hcell⟩ := hv
  obtain ⟨hbl, hbx⟩ := List.getElem?_eq_some_iff.1 hb
  obtain ⟨n, hl⟩ : ∃ n, l.length = n := ⟨_, rfl⟩
  have HL := Lib.hid hl
  have HC := Lib.hid hcell
  have HB := Lib.hid hb
  have HN := Lib.hid hn
  rw [hl] at hc hz hbl ⊢
  clear hcell hb hn hbx hl
  go_enter Tryd.func23, Tryd.ntmps23
  go_wp2
  go_loopw [8] (fun i wr => ∃ k : Nat, k ≤ b ∧ i = .int .i64 (k : Int) ∧ wr = w) (fun i _ => b - (intOf i).toNat)
  case atStart => exact ⟨0, Nat.zero_le _, rfl, rfl⟩
  case round =>
    obtain ⟨k, hk, rfl, rfl⟩ := hrel
    have hkl : k < l.length := by have := HL.out; omega
    obtain ⟨g, o, rfl, hg, k1⟩ := HC.out k l[k] (List.getElem?_eq_getElem hkl)
    have i1 : (0 : Int) ≤ (k : Int) := by omega
    have i2 : (k : Int) < (n : Int) := by omega
    by_cases hlt : k < b
    · have hne : l[k] ≠ x := HN.out k hlt _ (List.getElem?_eq_getElem hkl)
      generalize l[k] = y at *
      have t1 : (x == y) = false := by simp; exact fun h => hne h.symm
      have t2 : ¬ x = y := fun h => hne h.symm
      go_wp2
      go_roundw
      case rel => exact ⟨k + 1, by omega, by go_num, trivial⟩
      case measure => simp [intOf]; omega
    · obtain rfl : k = b := by omega
      have hx : l[k] = x := Option.some.inj ((List.getElem?_eq_getElem hkl).symm.trans HB.out)
      rw [hx] at k1
      clear hx
      go_wp2
      go_ret
      exact ⟨rfl, rfl⟩

set_option maxHeartbeats 8000000 in
theorem slMax_any (v : Value) (l : List Int) (w : World) (hv : IL v l w) (hz : l.length ≤ 1000000) (b : Nat) (x : Int) (hb : l[b]? = some x) (hm : ∀ (i : Nat) y, l[i]? = some y → y ≤ x) :
    Calls Tryd.prog 24 #[v] w fun e w' => e = .returned (.int .i64 x) ∧ w' = w := by
  obtain ⟨a, cap, rfl, hc, hcell⟩ := hv
  obtain ⟨hbl, hbx⟩ := List.getElem?_eq_some_iff.1 hb
  obtain ⟨n, hl⟩ : ∃ n, l.length = n := ⟨_, rfl⟩
  have HL := Lib.hid hl
  have HC := Lib.hid hcell
  have HB := Lib.hid hb
  have HM := Lib.hid hm
  have h0l : 0 < l.length := by omega
  obtain ⟨g, o, rfl, hg, k0⟩ := hcell 0 l[0] (List.getElem?_eq_getElem h0l)
  rw [Nat.add_zero] at k0
  rw [hl] at hc hz hbl ⊢
  have d1 : decide ((n : Int) < 1) = false := by simp; omega
  have i0 : (0 : Int) < (n : Int) := by omega
  have HX : RowKit.Hid (l[0]? = some l[0]) := List.getElem?_eq_getElem h0l
  clear hcell hb hm hbx hl
  generalize l[0] = x0 at *
  go_enter Tryd.func24, Tryd.ntmps24
  go_wp2
  go_loopw [3, 4] (fun m i wr => ∃ k : Nat, ∃ y : Int, 1 ≤ k ∧ k ≤ n ∧ i = .int .i64 (k : Int) ∧ m = .int .i64 y ∧ RowKit.Hid (y ≤ x ∧ ∀ i, i < k → ∀ z, l[i]? = some z → z ≤ y) ∧ wr = w) (fun _ i _ => n - (intOf i).toNat)
  case atStart =>
    refine ⟨1, x0, Nat.le_refl _, by omega, rfl, rfl, ⟨HM.out 0 x0 HX.out, fun i hi z hz => ?_⟩, rfl⟩
    obtain rfl : i = 0 := by omega
    rw [HX.out] at hz
    exact Int.le_of_eq (Option.some.inj hz).symm
  case round =>
    obtain ⟨k, y, hk1, hk, rfl, rfl, HY, rfl⟩ := hrel
    by_cases hlt : k < n
    · have hkl : k < l.length := by have := HL.out; omega
      obtain ⟨g2, o2, hgo, hg2, k1⟩ := HC.out k l[k] (List.getElem?_eq_getElem hkl)
      simp only [Option.some.injEq, Addr.mk.injEq, and_true] at hgo
      obtain ⟨rfl, rfl⟩ := hgo
      have HZ : RowKit.Hid (l[k]? = some l[k]) := List.getElem?_eq_getElem hkl
      have i1 : (0 : Int) ≤ (k : Int) := by omega
      have i2 : (k : Int) < (n : Int) := by omega
      generalize l[k] = z at *
      obtain ⟨m, hm⟩ : ∃ m, max y z = m := ⟨_, rfl⟩
      have HNew : RowKit.Hid (m ≤ x ∧ ∀ i, i < k + 1 → ∀ u, l[i]? = some u → u ≤ m) := by
        have h1 := HY.out.1
        have h2 := HM.out k z HZ.out
        refine ⟨by omega, fun i hi u hu => ?_⟩
        rcases Nat.lt_or_ge i k with h3 | h3
        · have := HY.out.2 i h3 u hu
          omega
        · obtain rfl : i = k := by omega
          rw [HZ.out] at hu
          have := Option.some.inj hu
          omega
      have hmax : ∀ (ts : Array TypeId) (t : TypeId) (W : World), (Builtin.max_ ts t #[.int .i64 y, .int .i64 z]).run Tryd.prog W = .ok (.int .i64 m) W := by
        intro ts t W
        rw [run_max_int2]
        split
        · rw [show z = m by omega]
        · rw [show y = m by omega]
      clear hm HY
      go_wp2
      go_roundw
      case rel => exact ⟨k + 1, m, by omega, by omega, by go_num, rfl, HNew, trivial⟩
      case measure => simp [intOf]; omega
    · obtain rfl : k = n := by omega
      have HR : RowKit.Hid (y = x) := by
        have := HY.out.2 b (by omega) x HB.out
        have := HY.out.1
        unfold RowKit.Hid
        omega
      go_wp2
      go_ret
      rw [HR.out]
      exact ⟨rfl, rfl⟩
end Go.Proofs.YtbemenflkebpnaaDoor
