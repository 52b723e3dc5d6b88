/- Package date: Of, Parts, Months, at every argument. -/
import Derived.Test.YtdcmfncocehbhaaDoorDA03
namespace Go.Proofs.YtdcmfncocehbhaaDoor
open Go.RowKit

set_option maxHeartbeats 8000000 in
set_option maxRecDepth 100000 in
theorem datOf_okq {n y m d : Nat} (h : IsDate n y m d) (w : World) (hT : Tab w) :
    Calls Tryd.prog 10 #[.int .i64 (y : Int), .int .i64 (m : Int), .int .i64 (d : Int)] w fun e w' => e = .returned (.tuple #[.int .i64 (n : Int), .int .i64 0]) ∧ w' = w := by
  have hy0 := h.y0
  have hy1 := h.y1
  have hm0 := h.m0
  have hm1 := h.m1
  have hd0 := h.d0
  have hd1 := h.d1
  have hday := h.day
  have hl := mdays_pos (leap y) m
  have cL := Lib.hid (datLength_q (y : Int) (m : Int) _ (lenI_nat y m hy0 hy1 hm0 hm1) w hT)
  have cM : ∀ k : Nat, k + 1 ≤ m → Calls Tryd.prog 15 #[.int .i64 (y : Int), .int .i64 ((k + 1 : Nat) : Int)] w fun e w' => e = .returned (.int .i64 (mlen y (k + 1) : Nat)) ∧ w' = w :=
    fun k hk => datLength_q _ _ _ (lenI_nat y (k + 1) hy0 hy1 (by omega) (by omega)) w hT
  have cY := Lib.hid (fun W => datYearStart_any (y - 1900) (by omega) W)
  rw [show 1900 + (y - 1900) = y by omega] at cY
  have hs := ysum_le (y - 1900) (by omega)
  have CM := Lib.hid cM
  have HDay := Lib.hid hday
  have d1 : decide ((d : Int) < 1) = false := by simp; omega
  have d2 : decide (mlen y m < d) = false := by simp; omega
  have hml : mlen y m ≤ 31 := by unfold mlen; omega
  clear cM h hday hl hT
  generalize hML : mlen y m = ml at cL d2 hd1 hml
  generalize ysum (y - 1900) = sk at cY HDay hs
  clear hML
  go_enter Tryd.func10, Tryd.ntmps10
  go_wp2_with fail
  refine cL.out.mono ?_
  rintro e w1 ⟨rfl, rfl⟩
  go_wp2_with fail
  refine (cY.out _).mono ?_
  rintro e w2 ⟨rfl, rfl⟩
  go_wp2
  go_loopw [8, 9] (fun s i wr => ∃ k : Nat, k + 1 ≤ m ∧ i = .int .i64 ((k + 1 : Nat) : Int) ∧ s = .int .i64 ((d - 1 + sk + msum y k : Nat) : Int) ∧ wr = w2) (fun _ i _ => m - (intOf i).toNat)
  case atStart => exact ⟨0, hm0, rfl, by show Value.int .i64 _ = _; congr 1; simp [msum, msumL]; omega, rfl⟩
  case round =>
    obtain ⟨k, hk, rfl, rfl, rfl⟩ := hrel
    by_cases hlt2 : k + 1 < m
    · have cM := Lib.hid (CM.out k (by omega))
      have hs2 := msum_le y k (by omega)
      have hml2 := mdays_pos (leap y) (k + 1)
      have HS : RowKit.Hid (msum y (k + 1) = msum y k + mlen y (k + 1)) := rfl
      have hml3 : mlen y (k + 1) ≤ 31 := by unfold mlen; omega
      clear hml2
      generalize mlen y (k + 1) = l at cM HS hml3
      generalize msum y k = mk at HS hs2
      go_wp2_with fail
      refine cM.out.mono ?_
      rintro e w2 ⟨rfl, rfl⟩
      go_wp2
      go_roundw
      case rel => exact ⟨k + 1, by omega, by go_num, by rw [HS.out]; go_num, trivial⟩
      case measure => simp [intOf]; omega
    · have hke : m = k + 1 := by omega
      subst hke
      go_wp2
      go_ret2
      refine ⟨?_, rfl⟩
      have e0 := HDay.out
      rw [Nat.add_sub_cancel] at e0
      have e1 : n = d - 1 + sk + msum y k := by omega
      rw [e1]
      rfl
theorem datOf_ok {n y m d : Nat} (h : IsDate n y m d) (w : World) (hT : Tab w) :
    Calls Tryd.prog 10 #[.int .i64 (y : Int), .int .i64 (m : Int), .int .i64 (d : Int)] w fun e w' => e = .returned (.tuple #[.int .i64 (n : Int), .int .i64 0]) ∧ Below w.heap.size w w' :=
  (datOf_okq h w hT).mono fun e w' hh => ⟨hh.1, by rw [hh.2]; exact Below.refl _ _⟩

set_option maxHeartbeats 4000000 in
theorem datOf_badq (y m d : Int) (h : ¬ (1 ≤ d ∧ d ≤ lenI y m)) (w : World) (hT : Tab w) :
    Calls Tryd.prog 10 #[.int .i64 y, .int .i64 m, .int .i64 d] w fun e w' => e = .returned (.tuple #[.int .i64 0, .int .i64 2]) ∧ w' = w := by
  have cL := Lib.hid (datLength_q y m _ rfl w hT)
  by_cases h1 : d < 1
  · have d1 : decide (d < 1) = true := by simp; omega
    go_enter Tryd.func10, Tryd.ntmps10
    go_wp2
    go_ret2
    exact ⟨rfl, rfl⟩
  · have d1 : decide (d < 1) = false := by simp; omega
    have d2 : decide (lenI y m < d) = true := by simp; omega
    clear h h1
    generalize lenI y m = l at cL d2
    go_enter Tryd.func10, Tryd.ntmps10
    go_wp2_with fail
    refine cL.out.mono ?_
    rintro e w1 ⟨rfl, rfl⟩
    go_wp2
    go_ret2
    exact ⟨rfl, rfl⟩

theorem datOf_q (y m d n e : Int) (h : ofI y m d = (n, e)) (w : World) (hT : Tab w) :
    Calls Tryd.prog 10 #[.int .i64 y, .int .i64 m, .int .i64 d] w fun e' w' => e' = .returned (.tuple #[.int .i64 n, .int .i64 e]) ∧ w' = w := by
  by_cases hv : 1 ≤ d ∧ d ≤ lenI y m
  · obtain ⟨a, b, c, rfl, rfl, rfl, k, hd⟩ := date_nat y m d hv
    rw [ofI_date hd] at h
    simp only [Prod.mk.injEq] at h
    obtain ⟨rfl, rfl⟩ := h
    exact datOf_okq hd w hT
  · rw [ofI_bad y m d hv] at h
    simp only [Prod.mk.injEq] at h
    obtain ⟨rfl, rfl⟩ := h
    exact datOf_badq y m d hv w hT
theorem datOf_any (y m d n e : Int) (h : ofI y m d = (n, e)) (w : World) (hT : Tab w) :
    Calls Tryd.prog 10 #[.int .i64 y, .int .i64 m, .int .i64 d] w fun e' w' => e' = .returned (.tuple #[.int .i64 n, .int .i64 e]) ∧ Below w.heap.size w w' :=
  (datOf_q y m d n e h w hT).mono fun e w' hh => ⟨hh.1, by rw [hh.2]; exact Below.refl _ _⟩

set_option maxHeartbeats 4000000 in
theorem datParts_bad (n : Int) (h : ¬ (0 ≤ n ∧ n ≤ 109572)) (w : World) :
    Calls Tryd.prog 13 #[.int .i64 n] w fun e w' => e = .returned (.tuple #[.int .i64 0, .int .i64 0, .int .i64 0, .int .i64 2]) ∧ Below w.heap.size w w' := by
  have c1 := Lib.hid (fun W => datExists_any n false (by simp; omega) W)
  go_enter Tryd.func13, Tryd.ntmps13
  go_wp2_with fail
  refine (c1.out _).mono ?_
  rintro e w1 ⟨rfl, rfl⟩
  go_wp2
  (try simp only [Exit.inBlock, Exit.then])
  refine bodyPost_ret (results_tmp4 rfl _ _ _) rfl ?_
  exact ⟨rfl, Below.refl _ _⟩

set_option maxHeartbeats 8000000 in
set_option maxRecDepth 100000 in
theorem datParts_ok {n y m d : Nat} (h : IsDate n y m d) (w : World) (hT : Tab w) :
    Calls Tryd.prog 13 #[.int .i64 (n : Int)] w fun e w' => e = .returned (.tuple #[.int .i64 (y : Int), .int .i64 (m : Int), .int .i64 (d : Int), .int .i64 0]) ∧ Below w.heap.size w w' := by
  have hy0 := h.y0
  have hy1 := h.y1
  have hm0 := h.m0
  have hm1 := h.m1
  have hd0 := h.d0
  have hn := h.le
  unfold maxDay at hn
  have c1 := Lib.hid (fun W => datExists_any (n : Int) true (by simp; omega) W)
  have c2 := Lib.hid (fun W => datYearOf_any h W)
  have c3 := Lib.hid (fun W => datYearStart_any (y - 1900) (by omega) W)
  rw [show 1900 + (y - 1900) = y by omega] at c3
  have cM : ∀ k : Nat, k + 1 ≤ m → ∀ W, Below w.heap.size w W → Calls Tryd.prog 15 #[.int .i64 (y : Int), .int .i64 ((k + 1 : Nat) : Int)] W fun e w' => e = .returned (.int .i64 (mlen y (k + 1) : Nat)) ∧ Below W.heap.size W w' :=
    fun k hk W hW => datLength_any _ _ _ (lenI_nat y (k + 1) hy0 hy1 (by omega) (by omega)) W (hT.on hW)
  have hle := h.year.1
  have hM : ∀ k, k + 1 < m → ysum (y - 1900) + msum y k + mlen y (k + 1) ≤ n := by
    intro k hk
    have h1 : msum y (k + 1) ≤ msum y (m - 1) := msumL_mono _ _ _ (by omega)
    have h2 : msum y (k + 1) = msum y k + mlen y (k + 1) := rfl
    have := h.month.1
    omega
  have hDay := h.day
  have hd1 := h.d1
  have CM := Lib.hid cM
  have HM := Lib.hid hM
  have HDay := Lib.hid hDay
  have HD1 := Lib.hid hd1
  clear cM hM hDay hd1 h hT
  generalize ysum (y - 1900) = sk at c3 hle HM HDay
  have hbr := Below.refl w.heap.size w
  go_enter Tryd.func13, Tryd.ntmps13
  go_wp2_with fail
  refine (c1.out _).mono ?_
  rintro e w1 ⟨rfl, rfl⟩
  go_wp2_with fail
  refine (c2.out _).mono ?_
  rintro e w1 ⟨rfl, rfl⟩
  go_wp2_with fail
  refine (c3.out _).mono ?_
  rintro e w1 ⟨rfl, rfl⟩
  go_wp2
  go_loopw [7, 8] (fun r i wr => ∃ k : Nat, k + 1 ≤ m ∧ i = .int .i64 ((k + 1 : Nat) : Int) ∧ r = .int .i64 ((n - sk - msum y k : Nat) : Int) ∧ sk + msum y k ≤ n ∧ Below w1.heap.size w1 wr) (fun _ i _ => m + 1 - (intOf i).toNat)
  case atStart => exact ⟨0, hm0, rfl, by show Value.int .i64 _ = _; congr 1; simp [msum, msumL]; omega, hle, hbr⟩
  case round =>
    obtain ⟨k, hk, rfl, rfl, hle2, hbw2⟩ := hrel
    have cM := Lib.hid (CM.out k hk)
    by_cases hlt2 : k + 1 < m
    · have hge2 := HM.out k hlt2
      have HS : RowKit.Hid (msum y (k + 1) = msum y k + mlen y (k + 1)) := rfl
      obtain ⟨l, e1⟩ : ∃ v, mlen y (k + 1) = v := ⟨_, rfl⟩
      obtain ⟨mk, e2⟩ : ∃ v, msum y k = v := ⟨_, rfl⟩
      rw [e1] at cM HS hge2
      rw [e2] at HS hge2 hle2
      rw [e2]
      clear e1 e2
      have d1 : decide (l ≤ n - sk - mk) = true := by simp; omega
      have d2 : l ≤ n - sk - mk := by omega
      go_wp2_with fail
      refine (cM.out _ hbw2).mono ?_
      rintro e w3 ⟨rfl, b3⟩
      have hb3 := hbw2.trans (b3.mono hbw2.size)
      clear b3
      go_wp2_with fail
      refine (cM.out _ hb3).mono ?_
      rintro e w4 ⟨rfl, b4⟩
      have hb4 := hb3.trans (b4.mono hb3.size)
      clear b4 hb3
      go_wp2
      go_roundw
      case rel => exact ⟨k + 1, by omega, by go_num, by rw [HS.out]; go_num, by rw [HS.out]; omega, hb4⟩
      case measure => simp [intOf]; omega
    · have hke : m = k + 1 := by omega
      subst hke
      have e0 := HDay.out
      rw [Nat.add_sub_cancel] at e0
      have hD := HD1.out
      obtain ⟨l, e1⟩ : ∃ v, mlen y (k + 1) = v := ⟨_, rfl⟩
      obtain ⟨mk, e2⟩ : ∃ v, msum y k = v := ⟨_, rfl⟩
      rw [e1] at cM hD
      rw [e2] at e0 hle2
      rw [e2]
      clear e1 e2 HDay HD1
      have e3 : n - sk - mk = d - 1 := by omega
      rw [e3]
      have d1 : decide (l ≤ d - 1) = false := by simp; omega
      have d2 : ¬ l ≤ d - 1 := by omega
      have hdn : d ≤ 200000 := by omega
      clear e0 e3
      go_wp2_with fail
      refine (cM.out _ hbw2).mono ?_
      rintro e w3 ⟨rfl, b3⟩
      have hb3 := hbw2.trans (b3.mono hbw2.size)
      clear b3
      go_wp2
      (try simp only [Exit.inBlock, Exit.then])
      refine bodyPost_ret (results_tmp4 rfl _ _ _) rfl ?_
      refine ⟨?_, hb3⟩
      have e4 : ((d - 1 : Nat) : Int) + 1 = (d : Int) := by omega
      simp [e4]

set_option maxHeartbeats 8000000 in
theorem datMonths_bad (n j : Int) (h : ¬ (0 ≤ n ∧ n ≤ 109572)) (w : World) :
    Calls Tryd.prog 19 #[.int .i64 n, .int .i64 j] w fun e w' => e = .returned (.tuple #[.int .i64 0, .int .i64 2]) ∧ Below w.heap.size w w' := by
  have c1 := Lib.hid (fun W => datParts_bad n h W)
  go_enter Tryd.func19, Tryd.ntmps19
  go_wp2_with fail
  refine (c1.out _).mono ?_
  rintro e w1 ⟨rfl, b1⟩
  go_wp2
  go_ret2
  exact ⟨rfl, b1⟩

set_option maxHeartbeats 8000000 in
/-- Out of the calendar, however far. -/
theorem datMonths_off {n y m d : Nat} (hd : IsDate n y m d) (j : Int) (ho : ¬ (22800 ≤ 12 * (y : Int) + m - 1 + j ∧ 12 * (y : Int) + m - 1 + j ≤ 26399)) (w : World) (hT : Tab w) :
    Calls Tryd.prog 19 #[.int .i64 (n : Int), .int .i64 j] w fun e w' => e = .returned (.tuple #[.int .i64 0, .int .i64 2]) ∧ Below w.heap.size w w' := by
  have c1 := Lib.hid (datParts_ok hd w hT)
  have hy0 := hd.y0
  have hy1 := hd.y1
  have hm0 := hd.m0
  have hm1 := hd.m1
  clear hd hT
  have d0 : decide (j < -(12 * ((y : Int) - 1900) + (m : Int) - 1)) = decide (12 * (y : Int) + m - 1 + j < 22800) := by congr 1; exact propext ⟨fun h => by omega, fun h => by omega⟩
  have d3 : decide (3599 - (12 * ((y : Int) - 1900) + (m : Int) - 1) < j) = decide (26399 < 12 * (y : Int) + m - 1 + j) := by congr 1; exact propext ⟨fun h => by omega, fun h => by omega⟩
  by_cases h1 : 12 * (y : Int) + m - 1 + j < 22800
  · have t1 : j < -(12 * ((y : Int) - 1900) + (m : Int) - 1) := by omega
    rw [decide_eq_true h1] at d0
    clear d3 ho h1
    go_enter Tryd.func19, Tryd.ntmps19
    go_wp2_with fail
    refine c1.out.mono ?_
    rintro e w1 ⟨rfl, b1⟩
    go_wp2
    go_ret2
    exact ⟨rfl, b1⟩
  · have h2 : 26399 < 12 * (y : Int) + m - 1 + j := by omega
    have t1 : ¬ j < -(12 * ((y : Int) - 1900) + (m : Int) - 1) := by omega
    have t2 : 3599 - (12 * ((y : Int) - 1900) + (m : Int) - 1) < j := by omega
    rw [decide_eq_false h1] at d0
    rw [decide_eq_true h2] at d3
    clear ho h1 h2
    go_enter Tryd.func19, Tryd.ntmps19
    go_wp2_with fail
    refine c1.out.mono ?_
    rintro e w1 ⟨rfl, b1⟩
    go_wp2
    go_ret2
    exact ⟨rfl, b1⟩
end Go.Proofs.YtdcmfncocehbhaaDoor
