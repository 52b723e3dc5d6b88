/- Package field: valueLength, readSubs. -/
import Derived.Test.YtjajihemcaihmaaDoorFG07
import Derived.Test.YtjajihemcaihmaaDoorEnv07
import Derived.RegionTactic
import Derived.BigRegion
namespace Go.Proofs.YtjajihemcaihmaaDoor
open Go.RowKit Go.PlainAid

theorem drop_cons (l : List UInt8) (i : Nat) (h : i < l.length) : l.drop i = l.getD i 0 :: l.drop (i + 1) := by
  rw [List.getD_eq_getElem?_getD, List.getElem?_eq_getElem h]
  exact List.drop_eq_getElem_cons h
theorem vlen_cases (l : List UInt8) (i : Nat) (h : i < l.length) :
    (Lib.hasPrefix (l.drop i) [36, 36] = true ∧ i + 2 ≤ l.length ∧ vlen (l.drop i) = vlen (l.drop (i + 2)) + 2) ∨
    (Lib.hasPrefix (l.drop i) [36, 36] = false ∧ Lib.hasPrefix (l.drop i) [36] = true ∧ vlen (l.drop i) = 0) ∨
    (Lib.hasPrefix (l.drop i) [36, 36] = false ∧ Lib.hasPrefix (l.drop i) [36] = false ∧ vlen (l.drop i) = vlen (l.drop (i + 1)) + 1) := by
  have p1 : ∀ (x : UInt8) (t : List UInt8), Lib.hasPrefix (x :: t) [36] = decide (x = 36) := fun x t => one_prefix 36 x t
  rw [drop_cons l i h]
  by_cases hx : l.getD i 0 = 36
  · rw [hx]
    by_cases h1 : i + 1 < l.length
    · rw [show i + 2 = i + 1 + 1 from rfl, drop_cons l (i + 1) h1]
      by_cases hy : l.getD (i + 1) 0 = 36
      · rw [hy]
        exact .inl ⟨by simp [Lib.hasPrefix], by omega, vlen_two _⟩
      · refine .inr (.inl ⟨?_, by rw [p1]; simp, vlen_end _ (.inr (.inr ⟨_, _, rfl, hy⟩))⟩)
        show ((36 : UInt8) == 36 && ((36 : UInt8) == l.getD (i + 1) 0 && _)) = false
        rw [beq_eq_false_iff_ne.2 (fun e => hy e.symm)]
        simp
    · rw [List.drop_eq_nil_of_le (by omega)]
      exact .inr (.inl ⟨by simp [Lib.hasPrefix], by rw [p1]; simp, vlen_end _ (.inr (.inl rfl))⟩)
  · exact .inr (.inr ⟨two_36 _ _ hx, (p1 _ _).trans (decide_eq_false hx), vlen_other _ _ hx⟩)

set_option maxHeartbeats 8000000 in
theorem vlen_any (l : List UInt8) (hz : l.length ≤ 1000000) (r : Nat) (hr : vlen l = r) (w : World) :
    Calls Tryd.prog 77 #[.string (S l)] w fun e w' => e = .returned (.int .i64 (r : Int)) ∧ w' = w := by
  obtain ⟨n, hn⟩ : ∃ n, l.length = n := ⟨_, rfl⟩
  have hsz : (S l).size = n := by rw [S_size, hn]
  have hex : ∀ i, (S l).extract i n = S (l.drop i) := fun i => by rw [S_extract, ← hn, List.take_length]
  have HEx := Lib.hid hex
  have HC := Lib.hid (vlen_cases l)
  have H0 : RowKit.Hid (0 + vlen (l.drop 0) = r) := by
    unfold RowKit.Hid
    rw [List.drop_zero, hr, Nat.zero_add]
  have cP := Lib.hid (fun i p b hb W => cPrefix (l.drop i) p b hb W)
  have HN := Lib.hid hn
  rw [hn] at hz
  clear hex hn hr
  generalize hs : S l = s at *
  clear hs
  go_enter Tryd.func77, Tryd.ntmps77
  go_wp2
  go_loopw [3] (fun i wr => ∃ k : Nat, k ≤ n ∧ i = .int .i64 (k : Int) ∧ RowKit.Hid (k + vlen (l.drop k) = r) ∧ w = wr) (fun i _ => n - (intOf i).toNat)
  case atStart => exact ⟨0, Nat.zero_le _, rfl, H0, rfl⟩
  case round =>
    obtain ⟨k, hk, rfl, HV, rfl⟩ := hrel
    by_cases hkn : k < n
    · have hki : (k : Int) < (n : Int) := by omega
      have i1 : (0 : Int) ≤ (k : Int) := by omega
      have i2 : (k : Int) ≤ (n : Int) := by omega
      rcases HC.out k (by rw [HN.out]; exact hkn) with ⟨h2, hle, hv⟩ | ⟨h2, h1, hv⟩ | ⟨h2, h1, hv⟩
      · have hc := cP.out k [36, 36] true h2 w
        rw [← HEx.out k] at hc
        have HV2 : RowKit.Hid (k + 2 + vlen (l.drop (k + 2)) = r) := by
          have := HV.out
          unfold RowKit.Hid
          omega
        have hle2 : k + 2 ≤ n := by rw [← HN.out]; exact hle
        clear h2 hv hle
        go_wp2_with fail
        refine hc.mono ?_
        rintro e w1 ⟨rfl, rfl⟩
        go_wp2
        go_roundw
        case rel => exact ⟨k + 2, hle2, by go_num, HV2, trivial⟩
        case measure => simp [intOf]; omega
      · have hc := cP.out k [36, 36] false h2 w
        have hc1 := cP.out k [36] true h1 w
        rw [← HEx.out k] at hc hc1
        obtain rfl : k = r := by have := HV.out; omega
        clear h2 h1 hv
        go_wp2_with fail
        refine hc.mono ?_
        rintro e w1 ⟨rfl, hw1⟩
        rw [hw1]
        clear hw1 w1
        go_wp2_with fail
        refine hc1.mono ?_
        rintro e w1 ⟨rfl, rfl⟩
        go_wp2
        go_ret
        exact ⟨rfl, rfl⟩
      · have hc := cP.out k [36, 36] false h2 w
        have hc1 := cP.out k [36] false h1 w
        rw [← HEx.out k] at hc hc1
        have HV2 : RowKit.Hid (k + 1 + vlen (l.drop (k + 1)) = r) := by
          have := HV.out
          unfold RowKit.Hid
          omega
        clear h2 h1 hv
        go_wp2_with fail
        refine hc.mono ?_
        rintro e w1 ⟨rfl, hw1⟩
        rw [hw1]
        clear hw1 w1
        go_wp2_with fail
        refine hc1.mono ?_
        rintro e w1 ⟨rfl, rfl⟩
        go_wp2
        go_roundw
        case rel => exact ⟨k + 1, by omega, by go_num, HV2, trivial⟩
        case measure => simp [intOf]; omega
    · obtain rfl : k = n := by omega
      obtain rfl : r = k := by
        have := HV.out
        rw [List.drop_eq_nil_of_le (by rw [HN.out]; exact Nat.le_refl _)] at this
        exact this.symm
      go_wp2
      go_ret
      exact ⟨rfl, rfl⟩

theorem halveK_le : ∀ (m : Nat) (l : List UInt8), l.length ≤ m → (Lib.replaceK [36, 36] [36] (Lib.count l [36, 36]) l).length ≤ l.length
  | _, [], _ => by rw [rep_nil _ _ (by simp)]; exact Nat.le_refl _
  | 0, _ :: _, h => by simp at h
  | m + 1, x :: t, h => by
    cases hp : [36, 36].isPrefixOf (x :: t) with
    | true =>
      rw [rep_hit [36, 36] [36] (x :: t) (by simp) hp]
      cases t with
      | nil => simp at hp
      | cons y r =>
        have := halveK_le m r (by simp only [List.length_cons] at h; omega)
        show ([36] ++ Lib.replaceK [36, 36] [36] (Lib.count r [36, 36]) r).length ≤ _
        simp only [List.length_append, List.length_cons, List.length_nil]
        omega
    | false =>
      rw [rep_miss [36, 36] [36] t x (by simp) hp]
      have := halveK_le m t (by simp only [List.length_cons] at h; omega)
      simp only [List.length_cons]
      omega
theorem halve_le (l : List UInt8) : (halveL l).length ≤ l.length := by
  unfold halveL
  rw [rep_all _ _ _ (by simp)]
  exact halveK_le l.length l (Nat.le_refl _)
theorem subsK_le : ∀ (k : Nat) (l : List UInt8), (subsK k l).length ≤ k ∧ ∀ i, i < (subsK k l).length → ((subsK k l).getD i sub0).2.length ≤ l.length
  | 0, _ => ⟨Nat.le_refl _, fun i hi => by cases hi⟩
  | k + 1, [] => ⟨by simp [subsK], fun i hi => by cases hi⟩
  | k + 1, [_] => ⟨by simp [subsK], fun i hi => by cases hi⟩
  | k + 1, a :: c :: r => by
    obtain ⟨h1, h2⟩ := subsK_le k (r.drop (vlen r))
    have e : subsK (k + 1) (a :: c :: r) = (c, halveL (r.take (vlen r))) :: subsK k (r.drop (vlen r)) := rfl
    rw [e]
    refine ⟨by simp; omega, fun i hi => ?_⟩
    cases i with
    | zero =>
      have := halve_le (r.take (vlen r))
      rw [List.length_take] at this
      show (halveL (r.take (vlen r))).length ≤ _
      simp only [List.length_cons]
      omega
    | succ i =>
      have := h2 i (by simpa using hi)
      rw [List.length_drop] at this
      show ((subsK k (r.drop (vlen r))).getD i sub0).2.length ≤ _
      simp only [List.length_cons]
      omega
end Go.Proofs.YtjajihemcaihmaaDoor
