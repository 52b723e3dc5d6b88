/- libraryref03.Of and Parts, at every number. -/
import Derived.Test.YtdcmfncocehbhaaDoorR03Len
namespace Go.Proofs.YtdcmfncocehbhaaDoor
open Go.RowKit

/-- The day of a date and the error. -/
def ofI (y m d : Int) : Int × Int := if 1 ≤ d ∧ d ≤ lenI y m then (((ysum (y.toNat - 1900) + msum y.toNat (m.toNat - 1) + (d.toNat - 1) : Nat) : Int), 0) else (0, 2)
theorem ofI_date {n y m d : Nat} (h : IsDate n y m d) : ofI (y : Int) (m : Int) (d : Int) = ((n : Int), 0) := by
  unfold ofI
  rw [lenI_nat y m h.y0 h.y1 h.m0 h.m1, if_pos (by have := h.d0; have := h.d1; omega)]
  have := h.day
  simp only [Int.toNat_natCast]
  rw [← this]
theorem ofI_bad (y m d : Int) (h : ¬ (1 ≤ d ∧ d ≤ lenI y m)) : ofI y m d = (0, 2) := if_neg h
theorem date_nat (y m d : Int) (h : 1 ≤ d ∧ d ≤ lenI y m) : ∃ a b c : Nat, y = (a : Int) ∧ m = (b : Int) ∧ d = (c : Int) ∧ ∃ n, IsDate n a b c := by
  by_cases hv : 1900 ≤ y ∧ y ≤ 2199 ∧ 1 ≤ m ∧ m ≤ 12
  · obtain ⟨h0, h1, h2, h3⟩ := hv
    obtain ⟨a, rfl⟩ : ∃ a : Nat, y = (a : Int) := ⟨y.toNat, by omega⟩
    obtain ⟨b, rfl⟩ : ∃ b : Nat, m = (b : Int) := ⟨m.toNat, by omega⟩
    obtain ⟨c, rfl⟩ : ∃ c : Nat, d = (c : Int) := ⟨d.toNat, by omega⟩
    rw [lenI_nat a b (by omega) (by omega) (by omega) (by omega)] at h
    exact ⟨a, b, c, rfl, rfl, rfl, _, ⟨by omega, by omega, by omega, by omega, by omega, by omega, rfl⟩⟩
  · rw [lenI_out y m hv] at h
    omega

theorem ysum_le (k : Nat) (h : k ≤ 300) : ysum k ≤ 109573 := by
  have := ysum_mono k 300 h
  rwa [ysum_all] at this
theorem msum_le (y k : Nat) (h : k ≤ 12) : msum y k ≤ 366 := by
  have h1 : msum y k ≤ msum y 12 := msumL_mono _ _ _ h
  rw [msum_year] at h1
  have := ylen_pos y
  omega

set_option maxHeartbeats 8000000 in
set_option maxRecDepth 100000 in
theorem refOf_ok {n y m d : Nat} (h : IsDate n y m d) (w : World) :
    Calls Tryd.prog 11 #[.int .i64 (y : Int), .int .i64 (m : Int), .int .i64 (d : Int)] w fun e w' => e = .returned (.tuple #[.int .i64 (n : Int), .int .i64 0]) ∧ Below w.heap.size w w' := by
  have hy0 := h.y0
  have hy1 := h.y1
  have hm0 := h.m0
  have hm1 := h.m1
  have hd0 := h.d0
  have hd1 := h.d1
  have hday := h.day
  have hl := mdays_pos (leap y) m
  have cL := Lib.hid (fun W => refLength_any (y : Int) (m : Int) _ (lenI_nat y m hy0 hy1 hm0 hm1) W)
  have cY : ∀ k : Nat, k < y - 1900 → ∀ W, Calls Tryd.prog 26 #[.int .i64 ((1900 + k : Nat) : Int)] W fun e w' => e = .returned (.int .i64 (ylen (1900 + k) : Nat)) ∧ Below W.heap.size W w' :=
    fun k hk W => refYear_any _ _ (yearI_nat (1900 + k) (by omega) (by omega)) W
  have cM : ∀ k : Nat, k + 1 ≤ m → ∀ W, Calls Tryd.prog 16 #[.int .i64 (y : Int), .int .i64 ((k + 1 : Nat) : Int)] W fun e w' => e = .returned (.int .i64 (mlen y (k + 1) : Nat)) ∧ Below W.heap.size W w' :=
    fun k hk W => refLength_any _ _ _ (lenI_nat y (k + 1) hy0 hy1 (by omega) (by omega)) W
  have CY := Lib.hid cY
  have CM := Lib.hid cM
  have HDay := Lib.hid hday
  have d1 : decide ((d : Int) < 1) = false := by simp; omega
  have d2 : decide (mlen y m < d) = false := by simp; omega
  have hml : mlen y m ≤ 31 := by unfold mlen; omega
  clear cY cM h hday hl
  generalize hML : mlen y m = ml at cL d2 hd1 hml
  clear hML
  go_enter Tryd.func11, Tryd.ntmps11
  go_wp2_with fail
  refine (cL.out _).mono ?_
  rintro e w1 ⟨rfl, b1⟩
  go_wp2
  go_loopw [8, 9] (fun s i wr => ∃ k : Nat, k ≤ y - 1900 ∧ i = .int .i64 ((1900 + k : Nat) : Int) ∧ s = .int .i64 ((d - 1 + ysum k : Nat) : Int) ∧ Below w.heap.size w wr) (fun _ i _ => y - (intOf i).toNat)
  case atStart => exact ⟨0, Nat.zero_le _, rfl, by show Value.int .i64 _ = _; congr 1; simp [ysum]; omega, b1⟩
  case round =>
    obtain ⟨k, hk, rfl, rfl, hbw⟩ := hrel
    by_cases hlt : k < y - 1900
    · have cY := Lib.hid (CY.out k hlt)
      have hs := ysum_le k (by omega)
      have hyl := ylen_pos (1900 + k)
      have HS : RowKit.Hid (ysum (k + 1) = ysum k + ylen (1900 + k)) := rfl
      have i1 : ((1900 + k : Nat) : Int) < (y : Int) := by omega
      obtain ⟨yl, e1⟩ : ∃ v, ylen (1900 + k) = v := ⟨_, rfl⟩
      obtain ⟨sk, e2⟩ : ∃ v, ysum k = v := ⟨_, rfl⟩
      rw [e1] at cY HS hyl
      rw [e2] at HS hs
      rw [e2]
      clear e1 e2
      go_wp2_with fail
      refine (cY.out _).mono ?_
      rintro e w2 ⟨rfl, b2⟩
      have hb2 := hbw.trans (b2.mono hbw.size)
      clear b2
      go_wp2
      go_roundw
      case rel => exact ⟨k + 1, by omega, by go_num, by rw [HS.out]; go_num, hb2⟩
      case measure => simp [intOf]; omega
    · have hke : k = y - 1900 := by omega
      have i1 : ¬ ((1900 + k : Nat) : Int) < (y : Int) := by omega
      subst hke
      have hs := ysum_le (y - 1900) (by omega)
      obtain ⟨sk, e2⟩ : ∃ v, ysum (y - 1900) = v := ⟨_, rfl⟩
      rw [e2] at HDay hs
      rw [e2]
      clear e2
      obtain ⟨wo, rfl⟩ : ∃ wo : World, wo = wr := ⟨_, rfl⟩
      go_wp2
      go_loopw [8, 10] (fun s i wr => ∃ k : Nat, k + 1 ≤ m ∧ i = .int .i64 ((k + 1 : Nat) : Int) ∧ s = .int .i64 ((d - 1 + sk + msum y k : Nat) : Int) ∧ Below w.heap.size w wr) (fun _ i _ => m - (intOf i).toNat)
      case atStart => exact ⟨0, hm0, rfl, rfl, hbw⟩
      case round =>
        obtain ⟨k, hk, rfl, rfl, hbw2⟩ := hrel
        by_cases hlt2 : k + 1 < m
        · have cM := Lib.hid (CM.out k (by omega))
          have hs2 := msum_le y k (by omega)
          have hml2 := mdays_pos (leap y) (k + 1)
          have HS : RowKit.Hid (msum y (k + 1) = msum y k + mlen y (k + 1)) := rfl
          have hml3 : mlen y (k + 1) ≤ 31 := by unfold mlen; omega
          clear hml2
          generalize mlen y (k + 1) = l at cM HS hml3
          generalize msum y k = mk at HS hs2
          go_wp2_with fail
          refine (cM.out _).mono ?_
          rintro e w2 ⟨rfl, b2⟩
          have hb2 := hbw2.trans (b2.mono hbw2.size)
          clear b2
          go_wp2
          go_roundw
          case rel => exact ⟨k + 1, by omega, by go_num, by rw [HS.out]; go_num, hb2⟩
          case measure => simp [intOf]; omega
        · have hke : m = k + 1 := by omega
          subst hke
          go_wp2
          go_ret2
          refine ⟨?_, hbw2⟩
          have e0 := HDay.out
          rw [Nat.add_sub_cancel] at e0
          have e1 : n = d - 1 + sk + msum y k := by omega
          rw [e1]
          rfl

set_option maxHeartbeats 4000000 in
theorem refOf_bad (y m d : Int) (h : ¬ (1 ≤ d ∧ d ≤ lenI y m)) (w : World) :
    Calls Tryd.prog 11 #[.int .i64 y, .int .i64 m, .int .i64 d] w fun e w' => e = .returned (.tuple #[.int .i64 0, .int .i64 2]) ∧ Below w.heap.size w w' := by
  have cL := Lib.hid (fun W => refLength_any y m _ rfl W)
  by_cases h1 : d < 1
  · have d1 : decide (d < 1) = true := by simp; omega
    go_enter Tryd.func11, Tryd.ntmps11
    go_wp2
    go_ret2
    exact ⟨rfl, Below.refl _ _⟩
  · have d1 : decide (d < 1) = false := by simp; omega
    have d2 : decide (lenI y m < d) = true := by simp; omega
    clear h h1
    generalize lenI y m = l at cL d2
    go_enter Tryd.func11, Tryd.ntmps11
    go_wp2_with fail
    refine (cL.out _).mono ?_
    rintro e w1 ⟨rfl, b1⟩
    go_wp2
    go_ret2
    exact ⟨rfl, b1⟩

theorem refOf_any (y m d n e : Int) (h : ofI y m d = (n, e)) (w : World) :
    Calls Tryd.prog 11 #[.int .i64 y, .int .i64 m, .int .i64 d] w fun e' w' => e' = .returned (.tuple #[.int .i64 n, .int .i64 e]) ∧ Below w.heap.size w w' := by
  by_cases hv : 1 ≤ d ∧ d ≤ lenI y m
  · obtain ⟨a, b, c, rfl, rfl, rfl, k, hd⟩ := date_nat y m d hv
    rw [ofI_date hd] at h
    simp only [Prod.mk.injEq] at h
    obtain ⟨rfl, rfl⟩ := h
    exact refOf_ok hd w
  · rw [ofI_bad y m d hv] at h
    simp only [Prod.mk.injEq] at h
    obtain ⟨rfl, rfl⟩ := h
    exact refOf_bad y m d hv w

theorem results_tmp4 {fn : Func} {t u v x : Tmp} (h : fn.results = #[.tmp t, .tmp u, .tmp v, .tmp x]) (tmps : Array Value) (P : Program) (w : World) :
    (results fn tmps).run P w = .ok (.tuple #[tmps.getD t undef, tmps.getD u undef, tmps.getD v undef, tmps.getD x undef]) w := by
  simp [results, h]
set_option maxHeartbeats 4000000 in
theorem refParts_bad (n : Int) (h : ¬ (0 ≤ n ∧ n ≤ 109572)) (w : World) :
    Calls Tryd.prog 14 #[.int .i64 n] w fun e w' => e = .returned (.tuple #[.int .i64 0, .int .i64 0, .int .i64 0, .int .i64 2]) ∧ Below w.heap.size w w' := by
  have c1 := Lib.hid (fun W => refIs_any n false (by simp; omega) W)
  go_enter Tryd.func14, Tryd.ntmps14
  go_wp2_with fail
  refine (c1.out _).mono ?_
  rintro e w1 ⟨rfl, rfl⟩
  go_wp2
  (try simp only [Exit.inBlock, Exit.then])
  refine bodyPost_ret (results_tmp4 rfl _ _ _) rfl ?_
  exact ⟨rfl, Below.refl _ _⟩

set_option maxHeartbeats 8000000 in
set_option maxRecDepth 100000 in
theorem refParts_ok {n y m d : Nat} (h : IsDate n y m d) (w : World) :
    Calls Tryd.prog 14 #[.int .i64 (n : Int)] w fun e w' => e = .returned (.tuple #[.int .i64 (y : Int), .int .i64 (m : Int), .int .i64 (d : Int), .int .i64 0]) ∧ Below w.heap.size w w' := by
  have hy0 := h.y0
  have hy1 := h.y1
  have hm0 := h.m0
  have hm1 := h.m1
  have hd0 := h.d0
  have hn := h.le
  unfold maxDay at hn
  have c1 := Lib.hid (fun W => refIs_any (n : Int) true (by simp; omega) W)
  have cY : ∀ k : Nat, k ≤ y - 1900 → ∀ W, Calls Tryd.prog 26 #[.int .i64 ((1900 + k : Nat) : Int)] W fun e w' => e = .returned (.int .i64 (ylen (1900 + k) : Nat)) ∧ Below W.heap.size W w' :=
    fun k hk W => refYear_any _ _ (yearI_nat (1900 + k) (by omega) (by omega)) W
  have cM : ∀ k : Nat, k + 1 ≤ m → ∀ W, Calls Tryd.prog 16 #[.int .i64 (y : Int), .int .i64 ((k + 1 : Nat) : Int)] W fun e w' => e = .returned (.int .i64 (mlen y (k + 1) : Nat)) ∧ Below W.heap.size W w' :=
    fun k hk W => refLength_any _ _ _ (lenI_nat y (k + 1) hy0 hy1 (by omega) (by omega)) W
  have hY : ∀ k, k < y - 1900 → ysum k + ylen (1900 + k) ≤ n := by
    intro k hk
    have h1 := ysum_mono (k + 1) (y - 1900) hk
    have h2 : ysum (k + 1) = ysum k + ylen (1900 + k) := rfl
    have := h.year.1
    omega
  have hYe : n < ysum (y - 1900) + ylen (1900 + (y - 1900)) := by
    rw [show 1900 + (y - 1900) = y by omega]
    exact h.year.2
  have hM : ∀ k, k + 1 < m → ysum (y - 1900) + msum y k + mlen y (k + 1) ≤ n := by
    intro k hk
    have h1 : msum y (k + 1) ≤ msum y (m - 1) := msumL_mono _ _ _ (by omega)
    have h2 : msum y (k + 1) = msum y k + mlen y (k + 1) := rfl
    have := h.month.1
    omega
  have hDay := h.day
  have hd1 := h.d1
  have CY := Lib.hid cY
  have CM := Lib.hid cM
  have HY := Lib.hid hY
  have HYe := Lib.hid hYe
  have HM := Lib.hid hM
  have HDay := Lib.hid hDay
  have HD1 := Lib.hid hd1
  clear cY cM hY hYe hM hDay hd1 h
  go_enter Tryd.func14, Tryd.ntmps14
  go_wp2_with fail
  refine (c1.out _).mono ?_
  rintro e w1 ⟨rfl, rfl⟩
  have hbr := Below.refl w1.heap.size w1
  go_wp2
  go_loopw [0, 6] (fun r i wr => ∃ k : Nat, k ≤ y - 1900 ∧ i = .int .i64 ((1900 + k : Nat) : Int) ∧ r = .int .i64 ((n - ysum k : Nat) : Int) ∧ ysum k ≤ n ∧ Below w1.heap.size w1 wr) (fun _ i _ => y + 1 - (intOf i).toNat)
  case atStart => exact ⟨0, Nat.zero_le _, rfl, rfl, Nat.zero_le _, hbr⟩
  case round =>
    obtain ⟨k, hk, rfl, rfl, hle, hbw⟩ := hrel
    have cY := Lib.hid (CY.out k hk)
    have hyl := ylen_pos (1900 + k)
    by_cases hlt : k < y - 1900
    · have hge := HY.out k hlt
      have HS : RowKit.Hid (ysum (k + 1) = ysum k + ylen (1900 + k)) := rfl
      obtain ⟨yl, e1⟩ : ∃ v, ylen (1900 + k) = v := ⟨_, rfl⟩
      obtain ⟨sk, e2⟩ : ∃ v, ysum k = v := ⟨_, rfl⟩
      rw [e1] at cY HS hyl hge
      rw [e2] at HS hge hle
      rw [e2]
      clear e1 e2
      have d1 : decide (yl ≤ n - sk) = true := by simp; omega
      have d2 : yl ≤ n - sk := by omega
      go_wp2_with fail
      refine (cY.out _).mono ?_
      rintro e w2 ⟨rfl, b2⟩
      have hb2 := hbw.trans (b2.mono hbw.size)
      clear b2
      go_wp2_with fail
      refine (cY.out _).mono ?_
      rintro e w3 ⟨rfl, b3⟩
      have hb3 := hb2.trans (b3.mono hb2.size)
      clear b3 hb2
      go_wp2
      go_roundw
      case rel => exact ⟨k + 1, by omega, by go_num, by rw [HS.out]; go_num, by rw [HS.out]; omega, hb3⟩
      case measure => simp [intOf]; omega
    · have hke : k = y - 1900 := by omega
      subst hke
      have hge := HYe.out
      obtain ⟨yl, e1⟩ : ∃ v, ylen (1900 + (y - 1900)) = v := ⟨_, rfl⟩
      obtain ⟨sk, e2⟩ : ∃ v, ysum (y - 1900) = v := ⟨_, rfl⟩
      rw [e1] at cY hyl hge
      rw [e2] at hge hle HM HDay
      rw [e2]
      clear e1 e2
      have d1 : decide (yl ≤ n - sk) = false := by simp; omega
      have d2 : ¬ yl ≤ n - sk := by omega
      have hyy : 1900 + (y - 1900) = y := by omega
      rw [hyy] at cY
      rw [hyy]
      clear hyy
      obtain ⟨wo, rfl⟩ : ∃ wo : World, wo = wr := ⟨_, rfl⟩
      go_wp2_with fail
      refine (cY.out _).mono ?_
      rintro e w2 ⟨rfl, b2⟩
      have hb2 := hbw.trans (b2.mono hbw.size)
      clear b2
      go_wp2
      go_loopw [0, 7] (fun r i wr => ∃ k : Nat, k + 1 ≤ m ∧ i = .int .i64 ((k + 1 : Nat) : Int) ∧ r = .int .i64 ((n - sk - msum y k : Nat) : Int) ∧ sk + msum y k ≤ n ∧ Below w1.heap.size w1 wr) (fun _ i _ => m + 1 - (intOf i).toNat)
      case atStart => exact ⟨0, hm0, rfl, rfl, hle, hb2⟩
      case round =>
        obtain ⟨k, hk, rfl, rfl, hle2, hbw2⟩ := hrel
        have cM := Lib.hid (CM.out k hk)
        by_cases hlt2 : k + 1 < m
        · have hge2 := HM.out k hlt2
          have HS : RowKit.Hid (msum y (k + 1) = msum y k + mlen y (k + 1)) := rfl
          obtain ⟨l, e1⟩ : ∃ v, mlen y (k + 1) = v := ⟨_, rfl⟩
          obtain ⟨mk, e2⟩ : ∃ v, msum y k = v := ⟨_, rfl⟩
          rw [e1] at cM HS hge2
          rw [e2] at HS hge2 hle2
          rw [e2]
          clear e1 e2
          have d1 : decide (l ≤ n - sk - mk) = true := by simp; omega
          have d2 : l ≤ n - sk - mk := by omega
          go_wp2_with fail
          refine (cM.out _).mono ?_
          rintro e w3 ⟨rfl, b3⟩
          have hb3 := hbw2.trans (b3.mono hbw2.size)
          clear b3
          go_wp2_with fail
          refine (cM.out _).mono ?_
          rintro e w4 ⟨rfl, b4⟩
          have hb4 := hb3.trans (b4.mono hb3.size)
          clear b4 hb3
          go_wp2
          go_roundw
          case rel => exact ⟨k + 1, by omega, by go_num, by rw [HS.out]; go_num, by rw [HS.out]; omega, hb4⟩
          case measure => simp [intOf]; omega
        · have hke : m = k + 1 := by omega
          subst hke
          have e0 := HDay.out
          rw [Nat.add_sub_cancel] at e0
          have hD := HD1.out
          obtain ⟨l, e1⟩ : ∃ v, mlen y (k + 1) = v := ⟨_, rfl⟩
          obtain ⟨mk, e2⟩ : ∃ v, msum y k = v := ⟨_, rfl⟩
          rw [e1] at cM hD
          rw [e2] at e0 hle2
          rw [e2]
          clear e1 e2 HDay HD1
          have e3 : n - sk - mk = d - 1 := by omega
          rw [e3]
          have d1 : decide (l ≤ d - 1) = false := by simp; omega
          have d2 : ¬ l ≤ d - 1 := by omega
          have hdn : d ≤ 200000 := by omega
          clear e0 e3
          go_wp2_with fail
          refine (cM.out _).mono ?_
          rintro e w3 ⟨rfl, b3⟩
          have hb3 := hbw2.trans (b3.mono hbw2.size)
          clear b3
          go_wp2
          (try simp only [Exit.inBlock, Exit.then])
          refine bodyPost_ret (results_tmp4 rfl _ _ _) rfl ?_
          refine ⟨?_, hb3⟩
          have e4 : ((d - 1 : Nat) : Int) + 1 = (d : Int) := by omega
          simp [e4]
end Go.Proofs.YtdcmfncocehbhaaDoor
