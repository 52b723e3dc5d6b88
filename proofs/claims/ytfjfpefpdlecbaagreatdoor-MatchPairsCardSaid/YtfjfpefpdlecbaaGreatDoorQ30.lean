/- Merged: T15, Ints, FD07. -/
import Derived.Test.YtfjfpefpdlecbaaGreatDoorQ14
import Derived.Test.YtfjfpefpdlecbaaGreatDoorQ02
import Derived.RegionTactic
import Derived.BigRegion
import Derived.Test.YtfjfpefpdlecbaaGreatDoorProg
import Derived.Lib.Hide
import Derived.Below
import Derived.WalkKit
import Derived.BigCall
import Derived.Test.YtfjfpefpdlecbaaGreatDoorQ26
import Derived.Test.YtfjfpefpdlecbaaGreatDoorQ04
namespace Go.Proofs.YtfjfpefpdlecbaaGreatDoor

section
open Go.RowKit Go.PlainAid
theorem texts_ext (A B : List (List UInt8)) (hl : A.length = B.length) (h : ∀ i, i < A.length → A.getD i [] = B.getD i []) : A = B := by
  refine List.ext_getElem hl fun i h1 h2 => ?_
  have := h i h1
  rwa [List.getD_eq_getElem?_getD, List.getD_eq_getElem?_getD, List.getElem?_eq_getElem h1, List.getElem?_eq_getElem h2] at this

set_option maxHeartbeats 8000000 in
theorem refTexts_any (A B : List (List UInt8)) (va vb : Value) (w : World) (hA : BL va A w) (hB : BL vb B w) (b : Bool) (hb : decide (A = B) = b) :
    Calls Tryz.prog 16 #[va, vb] w fun e w' => e = .returned (.bool b) ∧ Below w.heap.size w w' := by
  obtain ⟨a, ca, rfl, hca, hma, _, hcA⟩ := hA
  obtain ⟨b', cb, rfl, hcb, hmb, _, hcB⟩ := hB
  unfold maxLen at hma hmb
  have HCA := Lib.hid hcA
  have HCB := Lib.hid hcB
  have HE := Lib.hid (fun h : A = B => congrArg List.length h)
  have HX := Lib.hid (texts_ext A B)
  have HBB := Lib.hid hb
  clear hb
  obtain ⟨n, hn⟩ : ∃ n, A.length = n := ⟨_, rfl⟩
  obtain ⟨m, hm⟩ : ∃ m, B.length = m := ⟨_, rfl⟩
  have HN := Lib.hid hn
  have HM := Lib.hid hm
  rw [hn] at hca ⊢
  rw [hm] at hcb ⊢
  clear hcA hcB hn hm
  by_cases hnm : n = m
  · subst hnm
    have t0 : ((n : Int) != (n : Int)) = false := by simp
    go_enter Tryz.func16, Tryz.ntmps16
    go_wp2
    go_loopw [5] (fun i wr => ∃ k : Nat, k ≤ n ∧ i = .int .i64 (k : Int) ∧ RowKit.Hid (∀ j, j < k → A.getD j [] = B.getD j []) ∧ Below w.heap.size w wr) (fun i _ => n - (intOf i).toNat)
    case atStart => exact ⟨0, Nat.zero_le _, rfl, (fun j hj => by omega), Below.refl _ _⟩
    case round =>
      obtain ⟨k, hk, rfl, HJ, hbw⟩ := hrel
      by_cases hkn : k < n
      · obtain ⟨ga, oa, rfl, hga, c1⟩ := HCA.out k (by rw [HN.out]; exact hkn)
        obtain ⟨gb, ob, rfl, hgb, c2⟩ := HCB.out k (by rw [HM.out]; exact hkn)
        have c1 : wr.cell? ⟨ga, oa + k, none⟩ = some (.string (S (A.getD k []))) := (hbw.cell (p := ⟨ga, oa + k, none⟩) hga).trans c1
        have c2 : wr.cell? ⟨gb, ob + k, none⟩ = some (.string (S (B.getD k []))) := (hbw.cell (p := ⟨gb, ob + k, none⟩) hgb).trans c2
        have i1 : (0 : Int) ≤ (k : Int) := by omega
        have i2 : (k : Int) < (n : Int) := by omega
        have hq := S_eq12 (A.getD k []) (B.getD k [])
        by_cases he : A.getD k [] = B.getD k []
        · rw [decide_eq_true he] at hq
          have HJ2 : RowKit.Hid (∀ j, j < k + 1 → A.getD j [] = B.getD j []) := by
            intro j hj
            rcases Nat.lt_or_ge j k with h | h
            · exact HJ.out j h
            · rw [show j = k by omega]; exact he
          clear he HJ
          generalize S (A.getD k []) = x at *
          generalize S (B.getD k []) = y at *
          go_wp2
          go_region
          all_goals
            go_wp2
            go_roundw
            case rel => exact ⟨k + 1, by omega, by go_num, HJ2, hbw.drew⟩
            case measure => simp [intOf]; omega
        · rw [decide_eq_false he] at hq
          obtain rfl : b = false := by rw [← HBB.out]; exact decide_eq_false (fun h => he (by rw [h]))
          clear he HJ
          generalize S (A.getD k []) = x at *
          generalize S (B.getD k []) = y at *
          go_wp2
          go_region
          all_goals
            go_wp2
            go_ret
            exact ⟨rfl, hbw.drew⟩
      · obtain rfl : k = n := by omega
        have hab : A = B := HX.out (by rw [HN.out, HM.out]) (fun j hj => HJ.out j (by rw [HN.out] at hj; exact hj))
        obtain rfl : b = true := by rw [← HBB.out]; exact decide_eq_true hab
        clear hab
        go_wp2
        go_ret
        exact ⟨rfl, hbw⟩
  · have t0 : ((n : Int) != (m : Int)) = true := by simp; omega
    obtain rfl : b = false := by rw [← HBB.out]; exact decide_eq_false (fun h => hnm (by have := HE.out h; rw [HN.out, HM.out] at this; exact this))
    go_enter Tryz.func16, Tryz.ntmps16
    go_wp2
    go_ret
    exact ⟨rfl, Below.refl _ _⟩
end

section
open Go.RowKit
/-- A slice holds these integers. -/
def IL (v : Value) (l : List Int) (w : World) : Prop :=
  ∃ (a : Option Addr) (cap : Nat), v = .slice a l.length cap ∧ l.length ≤ cap ∧ ∀ i x, l[i]? = some x → ∃ g o, a = some ⟨g, o, none⟩ ∧ g < w.heap.size ∧ w.cell? ⟨g, o + i, none⟩ = some (.int .i64 x)
theorem IL.after {v : Value} {l : List Int} {w w' : World} (h : IL v l w) (hb : Below w.heap.size w w') : IL v l w' := by
  obtain ⟨a, cap, hv, hc, hi⟩ := h
  refine ⟨a, cap, hv, hc, fun i x hx => ?_⟩
  obtain ⟨g, o, ha, hg, hcell⟩ := hi i x hx
  exact ⟨g, o, ha, Nat.lt_of_lt_of_le hg hb.size, (hb.cell (p := ⟨g, o + i, none⟩) hg).trans hcell⟩
theorem IL.nil (w : World) : IL (.slice none 0 0) [] w := ⟨none, 0, rfl, Nat.le_refl _, fun i x h => by simp at h⟩

theorem ints_ne (l m : List Int) (n : Nat) (hl : l.length = n) (hm : m.length = n) : (∀ i, i < n → l[i]? = m[i]?) ↔ l = m := by
  constructor
  · intro h
    apply List.ext_getElem?
    intro i
    rcases Nat.lt_or_ge i n with h1 | h1
    · exact h i h1
    · rw [List.getElem?_eq_none (by omega), List.getElem?_eq_none (by omega)]
  · rintro rfl i _
    rfl

set_option maxHeartbeats 8000000 in
theorem refInts_any (v u : Value) (l m : List Int) (w : World) (hv : IL v l w) (hu : IL u m w) (hz : l.length ≤ 1000000) (hy : m.length ≤ 1000000) (b : Bool) (hb : decide (l = m) = b) :
    Calls Tryz.prog 22 #[v, u] w fun e w' => e = .returned (.bool b) ∧ Below w.heap.size w w' := by
  obtain ⟨a, ca, rfl, hca, hva⟩ := hv
  obtain ⟨c, cc, rfl, hcc, hvc⟩ := hu
  by_cases hlen : l.length = m.length
  · obtain ⟨n, hn⟩ : ∃ n, l.length = n := ⟨_, rfl⟩
    rw [← hlen] at hcc hy ⊢
    have hm : m.length = n := by omega
    rw [hn] at hca hcc hz hy ⊢
    have HA := Lib.hid hva
    have HC := Lib.hid hvc
    have HB := Lib.hid hb
    have HN := Lib.hid hn
    have HM := Lib.hid hm
    clear hva hvc hb hn hm hlen
    have hb0 := Below.refl w.heap.size w
    go_enter Tryz.func22, Tryz.ntmps22
    go_wp2
    go_loopw [5] (fun i wr => ∃ k : Nat, k ≤ n ∧ i = .int .i64 (k : Int) ∧ RowKit.Hid (∀ i, i < k → l[i]? = m[i]?) ∧ Below w.heap.size w wr) (fun i _ => n - (intOf i).toNat)
    case atStart => exact ⟨0, Nat.zero_le _, rfl, fun i hi => by omega, hb0⟩
    case round =>
      obtain ⟨k, hk, rfl, HE, hbw⟩ := hrel
      by_cases hlt : k < n
      · have hkl : k < l.length := by have := HN.out; omega
        have hkm : k < m.length := by have := HM.out; omega
        obtain ⟨g, o, rfl, hg, hc0⟩ := HA.out k l[k] (List.getElem?_eq_getElem hkl)
        obtain ⟨g2, o2, rfl, hg2, hc2⟩ := HC.out k m[k] (List.getElem?_eq_getElem hkm)
        have k1 : wr.cell? ⟨g, o + k, none⟩ = some (.int .i64 l[k]) := (hbw.cell (p := ⟨g, o + k, none⟩) hg).trans hc0
        have k2 : wr.cell? ⟨g2, o2 + k, none⟩ = some (.int .i64 m[k]) := (hbw.cell (p := ⟨g2, o2 + k, none⟩) hg2).trans hc2
        have HX : RowKit.Hid (l[k]? = some l[k] ∧ m[k]? = some m[k]) := ⟨List.getElem?_eq_getElem hkl, List.getElem?_eq_getElem hkm⟩
        have i1 : (0 : Int) ≤ (k : Int) := by omega
        have i2 : (k : Int) < (n : Int) := by omega
        have HBW := Lib.hid hbw
        clear hc0 hc2 hbw
        generalize l[k] = x at *
        generalize m[k] = y at *
        by_cases hxy : x = y
        · subst hxy
          have t1 : (x != x) = false := by simp
          go_wp2
          go_region
          go_wp2
          go_roundw
          case rel =>
            refine ⟨k + 1, by omega, by go_num, fun i hi => ?_, HBW.out.drew⟩
            rcases Nat.lt_or_ge i k with h | h
            · exact HE.out i h
            · rw [show i = k by omega, HX.out.1, HX.out.2]
          case measure => simp [intOf]; omega
        · have t1 : (x != y) = true := by simpa using hxy
          have t0 : (x == y) = false := by simpa using hxy
          obtain rfl : b = false := by
            rw [← HB.out]
            refine decide_eq_false fun h => hxy ?_
            subst h
            have := HX.out
            rw [this.1] at this
            exact Option.some.inj this.2
          go_wp2
          go_region
          go_wp2
          go_ret
          exact ⟨rfl, HBW.out.drew⟩
      · obtain rfl : k = n := by omega
        obtain rfl : b = true := by
          rw [← HB.out]
          exact decide_eq_true ((ints_ne l m k HN.out HM.out).1 HE.out)
        go_wp2
        go_ret
        exact ⟨rfl, hbw⟩
  · obtain rfl : b = false := by
      rw [← hb]
      exact decide_eq_false fun h => hlen (by rw [h])
    have d1 : ((l.length : Int) != (m.length : Int)) = true := by simp; omega
    clear hva hvc hb
    generalize l.length = x at *
    generalize m.length = y at *
    go_enter Tryz.func22, Tryz.ntmps22
    go_wp2
    go_ret
    exact ⟨rfl, Below.refl _ _⟩
end

section
open Go.RowKit Go.PlainAid

end

end Go.Proofs.YtfjfpefpdlecbaaGreatDoor
