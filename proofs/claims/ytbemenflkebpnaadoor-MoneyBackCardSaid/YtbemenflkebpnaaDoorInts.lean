/- A slice of integers, wherever it lies; libraryref01.Ints. -/
import Derived.Test.YtbemenflkebpnaaDoorProg
import Derived.Lib.Hide
import Derived.Below
import Derived.WalkKit
import Derived.BigCall
import Derived.RegionTactic
import Derived.BigRegion
namespace Go.Proofs.YtbemenflkebpnaaDoor
open Go.RowKit

/-- A slice holds these integers. -/
def IL (v : Value) (l : List Int) (w : World) : Prop :=
  ∃ (a : Option Addr) (cap : Nat), v = .slice a l.length cap ∧ l.length ≤ cap ∧ ∀ i x, l[i]? = some x → ∃ g o, a = some ⟨g, o, none⟩ ∧ g < w.heap.size ∧ w.cell? ⟨g, o + i, none⟩ = some (.int .i64 x)
theorem IL.after {v : Value} {l : List Int} {w w' : World} (h : IL v l w) (hb : Below w.heap.size w w') : IL v l w' := by
  obtain ⟨a, cap, hv, hc, hi⟩ := h
  refine ⟨a, cap, hv, hc, fun i x hx => ?_⟩
  obtain ⟨g, o, ha, hg, hcell⟩ := hi i x hx
  exact ⟨g, o, ha, Nat.lt_of_lt_of_le hg hb.size, (hb.cell (p := ⟨g, o + i, none⟩) hg).trans hcell⟩
theorem IL.nil (w : World) : IL (.slice none 0 0) [] w := ⟨none, 0, rfl, Nat.le_refl _, fun i x h => by simp at h⟩

theorem ints_ne (l m : List Int) (n : Nat) (hl : l.length = n) (hm : m.length = n) : (∀ i, i < n → l[i]? = m[i]?) ↔ l = m := by
  constructor
  · intro h
    apply List.ext_getElem?
    intro i
    rcases Nat.lt_or_ge i n with h1 | h1
    · exact h i h1
    · rw [List.getElem?_eq_none (by omega), List.getElem?_eq_none (by omega)]
  · rintro rfl i _
    rfl

set_option maxHeartbeats 8000000 in
theorem refInts_any (v u : Value) (l m : List Int) (w : World) (hv : IL v l w) (hu : IL u m w) (hz : l.length ≤ 1000000) (hy : m.length ≤ 1000000) (b : Bool) (hb : decide (l = m) = b) :
    Calls Tryd.prog 17 #[v, u] w fun e w' => e = .returned (.bool b) ∧ Below w.heap.size w w' := by
  obtain ⟨a, ca, rfl, hca, hva⟩ := hv
  obtain ⟨c, cc, rfl, hcc, hvc⟩ := hu
  by_cases hlen : l.length = m.length
  · obtain ⟨n, hn⟩ : ∃ n, l.length = n := ⟨_, rfl⟩
    rw [← hlen] at hcc hy ⊢
    have hm : m.length = n := by omega
    rw [hn] at hca hcc hz hy ⊢
    have HA := Lib.hid hva
    have HC := Lib.hid hvc
    have HB := Lib.hid hb
    have HN := Lib.hid hn
    have HM := Lib.hid hm
    clear hva hvc hb hn hm hlen
    have hb0 := Below.refl w.heap.size w
    go_enter Tryd.func17, Tryd.ntmps17
    go_wp2
    go_loopw [5] (fun i wr => ∃ k : Nat, k ≤ n ∧ i = .int .i64 (k : Int) ∧ RowKit.Hid (∀ i, i < k → l[i]? = m[i]?) ∧ Below w.heap.size w wr) (fun i _ => n - (intOf i).toNat)
    case atStart => exact ⟨0, Nat.zero_le _, rfl, fun i hi => by omega, hb0⟩
    case round =>
      obtain ⟨k, hk, rfl, HE, hbw⟩ := hrel
      by_cases hlt : k < n
      · have hkl : k < l.length := by have := HN.out; omega
        have hkm : k < m.length := by have := HM.out; omega
        obtain ⟨g, o, rfl, hg, hc0⟩ := HA.out k l[k] (List.getElem?_eq_getElem hkl)
        obtain ⟨g2, o2, rfl, hg2, hc2⟩ := HC.out k m[k] (List.getElem?_eq_getElem hkm)
        have k1 : wr.cell? ⟨g, o + k, none⟩ = some (.int .i64 l[k]) := (hbw.cell (p := ⟨g, o + k, none⟩) hg).trans hc0
        have k2 : wr.cell? ⟨g2, o2 + k, none⟩ = some (.int .i64 m[k]) := (hbw.cell (p := ⟨g2, o2 + k, none⟩) hg2).trans hc2
        have HX : RowKit.Hid (l[k]? = some l[k] ∧ m[k]? = some m[k]) := ⟨List.getElem?_eq_getElem hkl, List.getElem?_eq_getElem hkm⟩
        have i1 : (0 : Int) ≤ (k : Int) := by omega
        have i2 : (k : Int) < (n : Int) := by omega
        have HBW := Lib.hid hbw
        clear hc0 hc2 hbw
        generalize l[k] = x at *
        generalize m[k] = y at *
        by_cases hxy : x = y
        · subst hxy
          have t1 : (x != x) = false := by simp
          go_wp2
          go_region
          go_wp2
          go_roundw
          case rel =>
            refine ⟨k + 1, by omega, by go_num, fun i hi => ?_, HBW.out.drew⟩
            rcases Nat.lt_or_ge i k with h | h
            · exact HE.out i h
            · rw [show i = k by omega, HX.out.1, HX.out.2]
          case measure => simp [intOf]; omega
        · have t1 : (x != y) = true := by simpa using hxy
          have t0 : (x == y) = false := by simpa using hxy
          obtain rfl : b = false := by
            rw [← HB.out]
            refine decide_eq_false fun h => hxy ?_
            subst h
            have := HX.out
            rw [this.1] at this
            exact Option.some.inj this.2
          go_wp2
          go_region
          go_wp2
          go_ret
          exact ⟨rfl, HBW.out.drew⟩
      · obtain rfl : k = n := by omega
        obtain rfl : b = true := by
          rw [← HB.out]
          exact decide_eq_true ((ints_ne l m k HN.out HM.out).1 HE.out)
        go_wp2
        go_ret
        exact ⟨rfl, hbw⟩
  · obtain rfl : b = false := by
      rw [← hb]
      exact decide_eq_false fun h => hlen (by rw [h])
    have d1 : ((l.length : Int) != (m.length : Int)) = true := by simp; omega
    clear hva hvc hb
    generalize l.length = x at *
    generalize m.length = y at *
    go_enter Tryd.func17, Tryd.ntmps17
    go_wp2
    go_ret
    exact ⟨rfl, Below.refl _ _⟩
end Go.Proofs.YtbemenflkebpnaaDoor
