/- The statements' own helpers over lists: same at equal lists, count. -/
import Derived.Test.YtjfeckccmfbkhaaDoorCSortAll
import Derived.RegionTactic
import Derived.ChangeAlike
import Derived.BigRegion
namespace Go.Proofs.YtjfeckccmfbkhaaDoor
open Go.RowKit

set_option maxHeartbeats 4000000 in
theorem same_any (va vb : Value) (l : List ByteArray) (hl : l.length ≤ 1000) (w : World) (ha : SL va l w) (hb : SL vb l w) :
    Calls Tryd.prog 21 #[va, vb] w fun e w' => e = .returned (.bool true) ∧ Below w.heap.size w w' := by
  obtain ⟨pa, ca, rfl, hca, hcella⟩ := ha
  obtain ⟨pb, cb, rfl, hcb, hcellb⟩ := hb
  have HA := Lib.hid hcella
  have HB := Lib.hid hcellb
  clear hcella hcellb
  obtain ⟨N, hN⟩ : ∃ N, l.length = N := ⟨_, rfl⟩
  rw [hN] at hl hca hcb ⊢
  have HN := Lib.hid hN
  clear hN
  go_enter Tryd.func21, Tryd.ntmps21
  go_wp2
  go_loopw [13] (fun i wr => ∃ k : Nat, k ≤ N ∧ i = .int .i64 k ∧ Below w.heap.size w wr) (fun i _ => N - (intOf i).toNat)
  case atStart => exact ⟨0, Nat.zero_le _, rfl, Below.refl _ _⟩
  case round =>
    obtain ⟨k, hk, rfl, hbw⟩ := hrel
    by_cases hlt : k < N
    · have hkw : k < l.length := by have := HN.out; omega
      obtain ⟨ga, oa, rfl, hga, hc1⟩ := HA.out k l[k] (List.getElem?_eq_getElem hkw)
      obtain ⟨gb, ob, rfl, hgb, hc2⟩ := HB.out k l[k] (List.getElem?_eq_getElem hkw)
      have c1 : wr.cell? ⟨ga, oa + k, none⟩ = some (.string l[k]) := (hbw.cell (p := ⟨ga, oa + k, none⟩) hga).trans hc1
      have c2 : wr.cell? ⟨gb, ob + k, none⟩ = some (.string l[k]) := (hbw.cell (p := ⟨gb, ob + k, none⟩) hgb).trans hc2
      have i1 : (0 : Int) ≤ (k : Int) := by omega
      have i2 : (k : Int) < (N : Int) := by omega
      clear hc1 hc2
      generalize l[k] = t at c1 c2
      clear hkw
      go_wp2
      go_region
      all_goals
        go_wp2
        go_roundw
        case rel => exact ⟨k + 1, by omega, by go_num, hbw.drew⟩
        case measure => simp [intOf]; omega
    · obtain rfl : k = N := by omega
      go_wp2
      go_ret
      exact ⟨rfl, hbw⟩

/-- How often a string is in a list. -/
def cnt (l : List ByteArray) (s : ByteArray) : Nat := l.countP fun x => x.toList == s.toList
theorem cnt_perm {l m : List ByteArray} (h : l.Perm m) (s : ByteArray) : cnt l s = cnt m s := h.countP_eq _
theorem cnt_le (l : List ByteArray) (s : ByteArray) : cnt l s ≤ l.length := List.countP_le_length

set_option maxHeartbeats 4000000 in
theorem count_any (v : Value) (l : List ByteArray) (s : ByteArray) (hl : l.length ≤ 1000) (w : World) (h : SL v l w) :
    Calls Tryd.prog 24 #[v, .string s] w fun e w' => e = .returned (.int .i64 (cnt l s : Nat)) ∧ w' = w := by
  obtain ⟨pa, ca, rfl, hca, hcella⟩ := h
  have HA := Lib.hid hcella
  have HC := Lib.hid (Eq.refl (cnt l s))
  clear hcella
  obtain ⟨N, hN⟩ : ∃ N, l.length = N := ⟨_, rfl⟩
  rw [hN] at hl hca ⊢
  have HN := Lib.hid hN
  clear hN
  obtain ⟨R, hR⟩ : ∃ R, cnt l s = R := ⟨_, rfl⟩
  rw [hR]
  have HR := Lib.hid hR
  clear hR HC
  go_enter Tryd.func24, Tryd.ntmps24
  go_wp2
  go_loop [5, 9] (fun n i => ∃ k : Nat, k ≤ N ∧ i = .int .i64 k ∧ n = .int .i64 (cnt (l.take k) s : Nat)) (fun _ i => N - (intOf i).toNat)
  case atStart => exact ⟨0, Nat.zero_le _, rfl, by simp [cnt]⟩
  case round =>
    obtain ⟨k, hk, rfl, rfl⟩ := hrel
    by_cases hlt : k < N
    · have hkw : k < l.length := by have := HN.out; omega
      obtain ⟨ga, oa, rfl, hga, c1⟩ := HA.out k l[k] (List.getElem?_eq_getElem hkw)
      have i1 : (0 : Int) ≤ (k : Int) := by omega
      have i2 : (k : Int) < (N : Int) := by omega
      have HT : RowKit.Hid (cnt (l.take (k + 1)) s = cnt (l.take k) s + if (l[k].toList == s.toList) = true then 1 else 0) := by
        unfold RowKit.Hid cnt
        rw [List.take_succ_eq_append_getElem hkw, List.countP_append, List.countP_singleton]
      have hb := cnt_le (l.take k) s
      have hb2 : (l.take k).length ≤ k := List.length_take_le _ _
      generalize cnt (l.take k) s = C at HT hb
      generalize l[k] = t at c1 HT
      clear hkw
      cases he : (t.toList == s.toList)
      · rw [he] at HT
        go_wp2
        go_round
        case rel => exact ⟨k + 1, by omega, by go_num, by rw [HT.out]; simp⟩
        case measure => simp [intOf]; omega
      · rw [he] at HT
        go_wp2
        go_round
        case rel => exact ⟨k + 1, by omega, by go_num, by rw [HT.out]; simp only [if_true]; go_num⟩
        case measure => simp [intOf]; omega
    · obtain rfl : k = N := by omega
      have hh : cnt (l.take k) s = R := by rw [← HN.out, List.take_length]; exact HR.out
      rw [hh]
      go_wp2
      go_ret
      exact ⟨rfl, rfl⟩
end Go.Proofs.YtjfeckccmfbkhaaDoor
