/- The reference's functions Texts and Join over slices of strings: equal lists are found equal, and a list of words is joined by a blank. -/
import Derived.Test.YtfbmjfdfbokfdaaDoorAlive
import Derived.RegionTactic
import Derived.ChangeAlike
import Derived.BigRegion
namespace Go.Proofs.YtfbmjfdfbokfdaaDoor
open Go.RowKit

theorem Strs.form {B : Nat} {v : Value} {ws : List (List Nat)} {w : World} (h : Strs B v ws w) : ∃ ao cap, v = .slice ao ws.length cap := by
  rcases h.2 with ⟨hv, h0⟩ | ⟨g, cap, cur, hv, _⟩
  · exact ⟨none, 0, by rw [hv, h0]⟩
  · exact ⟨_, _, hv⟩
theorem Strs.below {B B' : Nat} {v : Value} {ws : List (List Nat)} {w w' : World} (h : Strs B v ws w) (hb : Below B' w w') (hB : w.heap.size ≤ B') : Strs B v ws w' := by
  refine ⟨h.1, ?_⟩
  rcases h.2 with hn | ⟨g, cap, cur, hv, hB', hg, rest⟩
  · exact .inl hn
  · have hlt : g < w.heap.size := (Array.getElem?_eq_some_iff.1 hg).1
    exact .inr ⟨g, cap, cur, hv, hB', (hb.block g (by omega)).trans hg, rest⟩
theorem Strs.after {B : Nat} {v : Value} {ws : List (List Nat)} {w w' : World} (h : Strs B v ws w) (hb : Below w.heap.size w w') : Strs B v ws w' := h.below hb (Nat.le_refl _)

set_option maxHeartbeats 4000000 in
theorem texts_same (Ba Bb : Nat) (va vb : Value) (ws : List (List Nat)) (hl : ws.length ≤ 4000000) (w : World) (ha : Strs Ba va ws w) (hb : Strs Bb vb ws w) :
    Calls Tryd.prog 22 #[va, vb] w fun e w' => e = .returned (.bool true) ∧ Below w.heap.size w w' := by
  by_cases hne : ws = []
  · subst hne
    obtain ⟨ao, ca, rfl⟩ := ha.form
    obtain ⟨bo, cb, rfl⟩ := hb.form
    clear ha hb
    go_enter Tryd.func22, Tryd.ntmps22
    go_wp2
    go_loop [5] (fun i => i = .int .i64 0) (fun _ => 0)
    case atStart => rfl
    case round =>
      obtain rfl := hrel
      go_wp2
      go_ret
      exact ⟨rfl, Below.refl _ _⟩
  · obtain ⟨ga, ca, rfl, _, hga, hca, hma, hcella⟩ := ha.open hne
    obtain ⟨gb, cb, rfl, _, hgb, hcb, hmb, hcellb⟩ := hb.open hne
    clear ha hb
    unfold maxLen at hma hmb
    have HA := Lib.hid hcella
    have HB := Lib.hid hcellb
    clear hcella hcellb
    generalize hN : ws.length = N at hl hca hcb
    have HN := Lib.hid hN
    clear hN hne
    go_enter Tryd.func22, Tryd.ntmps22
    go_wp2
    go_loopw [5] (fun i wr => ∃ k : Nat, k ≤ N ∧ i = .int .i64 k ∧ Below w.heap.size w wr) (fun i _ => N - (intOf i).toNat)
    case atStart => exact ⟨0, Nat.zero_le _, rfl, Below.refl _ _⟩
    case round =>
      obtain ⟨k, hk, rfl, hbw⟩ := hrel
      by_cases hlt : k < N
      · have hkw : k < ws.length := by have := HN.out; omega
        have c1 : wr.cell? ⟨ga, k, none⟩ = some (.string (T ws[k])) := by rw [hbw.cell (p := ⟨ga, k, none⟩) hga]; exact HA.out k hkw
        have c2 : wr.cell? ⟨gb, k, none⟩ = some (.string (T ws[k])) := by rw [hbw.cell (p := ⟨gb, k, none⟩) hgb]; exact HB.out k hkw
        have i1 : (0 : Int) ≤ (k : Int) := by omega
        have i2 : (k : Int) < (N : Int) := by omega
        generalize T ws[k] = t at c1 c2
        clear hkw
        go_wp2
        go_region
        all_goals
          go_wp2
          go_roundw
          case rel => exact ⟨k + 1, by omega, by go_num, hbw.drew⟩
          case measure => simp [intOf]; omega
      · obtain rfl : k = N := by omega
        go_wp2
        go_ret
        exact ⟨rfl, hbw⟩

theorem total_take (ws : List (List Nat)) (k : Nat) (h : k < ws.length) : total (ws.take (k + 1)) = total (ws.take k) + ws[k].length + 1 := by
  rw [List.take_succ_eq_append_getElem h, total_snoc]
theorem total_take_le (ws : List (List Nat)) (k : Nat) : total (ws.take k) ≤ total ws := by
  have : ws = ws.take k ++ ws.drop k := (List.take_append_drop k ws).symm
  conv => rhs; rw [this]
  unfold total
  rw [List.map_append, List.sum_append]
  omega
theorem T_append (a b : List Nat) : T a ++ T b = T (a ++ b) := by
  apply eq_T
  rw [ByteArray.data_append, Array.toList_append, T_list, T_list, enc_append]
theorem T_bound (a : List Nat) : (T a).size ≤ 4 * a.length := by rw [T_size]; exact enc_le a
theorem join_take (ws : List (List Nat)) (k : Nat) (h : k < ws.length) : joinL (ws.take (k + 1)) = if k = 0 then ws[k] else joinL (ws.take k) ++ [32] ++ ws[k] := by
  rw [List.take_succ_eq_append_getElem h, joinL_snoc]
  by_cases hk : k = 0
  · subst hk; rfl
  · rw [if_neg hk, if_neg]
    intro e
    have := congrArg List.length e
    rw [List.length_take, List.length_nil] at this
    omega

set_option maxHeartbeats 4000000 in
theorem join_any (B : Nat) (v : Value) (ws : List (List Nat)) (ht : total ws ≤ 4000000) (w : World) (hv : Strs B v ws w) :
    Calls Tryd.prog 25 #[v, .string ⟨#[32]⟩] w fun e w' => e = .returned (.string (T (joinL ws))) ∧ w = w' := by
  have hl := len_total ws
  by_cases hne : ws = []
  · subst hne
    obtain ⟨ao, ca, rfl⟩ := hv.form
    clear hv
    have e0 : T (joinL []) = ⟨#[]⟩ := rfl
    rw [e0]
    clear e0
    go_enter Tryd.func25, Tryd.ntmps25
    go_wp2
    go_loop [5, 6] (fun o i => o = .string ⟨#[]⟩ ∧ i = .int .i64 0) (fun _ _ => 0)
    case atStart => exact ⟨rfl, rfl⟩
    case round =>
      obtain ⟨rfl, rfl⟩ := hrel
      go_wp2
      go_ret
      exact ⟨rfl, rfl⟩
  · obtain ⟨ga, ca, rfl, _, hga, hca, hma, hcella⟩ := hv.open hne
    clear hv
    unfold maxLen at hma
    have HA := Lib.hid hcella
    clear hcella
    obtain ⟨N, hN⟩ : ∃ N, ws.length = N := ⟨_, rfl⟩
    have hl2 : N ≤ 4000000 := by omega
    have HT := Lib.hid ht
    clear ht hl
    rw [hN] at hca ⊢
    have HN := Lib.hid hN
    clear hN hne
    have t32 : (⟨#[32]⟩ : ByteArray) = T [32] := by kernel_rfl
    rw [t32]
    clear t32
    go_enter Tryd.func25, Tryd.ntmps25
    go_wp2
    go_loop [5, 6] (fun o i => ∃ k : Nat, k ≤ N ∧ i = .int .i64 k ∧ o = .string (T (joinL (ws.take k)))) (fun _ i => N - (intOf i).toNat)
    case atStart => exact ⟨0, Nat.zero_le _, rfl, rfl⟩
    case round =>
      obtain ⟨k, hk, rfl, rfl⟩ := hrel
      by_cases hlt : k < N
      · have hkw : k < ws.length := by have := HN.out; omega
        have c1 : w.cell? ⟨ga, k, none⟩ = some (.string (T ws[k])) := HA.out k hkw
        have i1 : (0 : Int) ≤ (k : Int) := by omega
        have i2 : (k : Int) < (N : Int) := by omega
        have HJ := Lib.hid (join_take ws k hkw)
        have hb1 := T_bound (joinL (ws.take k))
        have hb2 := T_bound ws[k]
        have hb3 := join_total (ws.take k)
        have hb4 := total_take ws k hkw
        have hb5 := total_take_le ws (k + 1)
        have hb6 : total ws ≤ 4000000 := HT.out
        have hs1 : (T (joinL (ws.take k))).size ≤ 16000000 := by omega
        have hs2 : (T ws[k]).size ≤ 16000000 := by omega
        have hs3 : (T [32]).size ≤ 1 := by decide
        clear hb1 hb2 hb3 hb4 hb5 hb6
        have HA1 := Lib.hid (T_append (joinL (ws.take k)) [32])
        have HA2 := Lib.hid (T_append (joinL (ws.take k) ++ [32]) ws[k])
        have HA3 := Lib.hid (T_append (joinL (ws.take k)) ws[k])
        by_cases hk0 : k = 0
        · have HK := Lib.hid hk0
          have d0 : ¬ (0 < k) := by omega
          clear hk0
          go_wp2
          go_round
          case rel =>
            refine ⟨k + 1, by omega, by go_num, ?_⟩
            have e0 : joinL (ws.take k) = [] := by rw [HK.out]; rfl
            rw [HJ.out, if_pos HK.out, HA3.out, e0]
            rfl
          case measure => simp [intOf]; omega
        · have hkp : 0 < k := by omega
          go_wp2
          go_round
          case rel =>
            refine ⟨k + 1, by omega, by go_num, ?_⟩
            rw [HJ.out, if_neg hk0, ← HA2.out, ← HA1.out]
          case measure => simp [intOf]; omega
      · obtain rfl : k = N := by omega
        have htk : ws.take k = ws := by rw [← HN.out, List.take_length]
        rw [htk]
        clear htk
        go_wp2
        go_ret
        exact ⟨rfl, rfl⟩
end Go.Proofs.YtfbmjfdfbokfdaaDoor
