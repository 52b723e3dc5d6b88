/- The statements DateBack and DateSteps of layer 3 over this translation: they return true. -/
import Derived.Test.YtdcmfncocehbhaaDoorLaw03
namespace Go.Proofs.YtdcmfncocehbhaaDoor
open Go.RowKit Go.PlainAid

theorem weekI_nat (n : Nat) (h : n ≤ 109572) : weekI (n : Int) = ((n % 7 : Nat) : Int) := by
  unfold weekI
  rw [if_pos (by omega)]
  rfl

set_option maxHeartbeats 8000000 in
set_option maxRecDepth 100000 in
theorem lawBack_out (n : Int) (h : ¬ (0 ≤ n ∧ n < 109572)) (w : World) (hT : Tab w) :
    Calls Tryd.prog 8 #[.int .i64 n] w fun e w' => e = .returned (.bool true) ∧ Below w.heap.size w w' := by
  have c3 := Lib.hid (fun W (hW : Below w.heap.size w W) => alive_any W (hT.on hW))
  by_cases h0 : n < 0
  · have d1 : decide (n < 0) = true := by simp; omega
    clear h
    have b0 := Below.refl w.heap.size w
    go_enter Tryd.func8, Tryd.ntmps8
    go_wp2_with fail
    refine (c3.out _ (by assumption)).mono ?_
    rintro e w1 ⟨rfl, b1⟩
    go_wp2
    go_ret
    exact ⟨rfl, b1⟩
  · have d1 : decide (n < 0) = false := by simp; omega
    have d2 : decide (109572 ≤ n) = true := by simp; omega
    clear h
    have b0 := Below.refl w.heap.size w
    go_enter Tryd.func8, Tryd.ntmps8
    go_wp2_with fail
    refine (c3.out _ (by assumption)).mono ?_
    rintro e w1 ⟨rfl, b1⟩
    go_wp2
    go_ret
    exact ⟨rfl, b1⟩

set_option maxHeartbeats 8000000 in
theorem lawBack_in (n : Nat) (h : n < 109572) (w : World) (hT : Tab w) :
    Calls Tryd.prog 8 #[.int .i64 (n : Int)] w fun e w' => e = .returned (.bool true) ∧ Below w.heap.size w w' := by
  have c3 := Lib.hid (fun W (hW : Below w.heap.size w W) => alive_any W (hT.on hW))
  obtain ⟨y, m, d, hd⟩ := date_of n (by unfold maxDay; omega)
  have d1 : decide ((n : Int) < 0) = false := by simp
  have d2 : decide ((109572 : Int) ≤ (n : Int)) = false := by simp; omega
  have cP := Lib.hid (fun W (hW : Below w.heap.size w W) => datParts_ok hd W (hT.on hW))
  have cO := Lib.hid (fun W (hW : Below w.heap.size w W) => datOf_any (y : Int) (m : Int) (d : Int) (n : Int) 0 (ofI_date hd) W (hT.on hW))
  have cF := Lib.hid (fun W (hW : Below w.heap.size w W) => datFormat_ok hd W (hT.on hW))
  have cQ := Lib.hid (fun W (hW : Below w.heap.size w W) => datParse_all (fmtS y m d) (n : Int) 0 (parI_fmt hd) W (hT.on hW))
  have hdm : IsDate n ((12 * y + m - 1) / 12) ((12 * y + m - 1) % 12 + 1) (capD ((12 * y + m - 1) / 12) ((12 * y + m - 1) % 12 + 1) d) := by
    have h1 := hd.m0
    have h2 := hd.m1
    have e1 : (12 * y + m - 1) / 12 = y := by omega
    have e2 : (12 * y + m - 1) % 12 + 1 = m := by omega
    have e3 : capD y m d = d := by
      unfold capD
      rw [if_neg (by have := hd.d1; omega)]
    rw [e1, e2, e3]
    exact hd
  have cM := Lib.hid (fun W (hW : Below w.heap.size w W) => datMonths_in hd 0 (12 * y + m - 1) (by have := hd.m0; omega) (by have := hd.m0; have := hd.m1; have := hd.y0; have := hd.y1; omega) hdm W (hT.on hW))
  have cW := Lib.hid (fun W => datWeekday_any (n : Int) _ (weekI_nat n (by omega)) W)
  have cV := Lib.hid (fun W => datWeekday_any ((n : Int) + 1) _ (weekI_nat (n + 1) (by omega)) W)
  have HL := Lib.hid (fun W (hW : Below w.heap.size w W) => datLength_any (y : Int) (m : Int) _ (lenI_nat y m hd.y0 hd.y1 hd.m0 hd.m1) W (hT.on hW))
  have hnx := hd.next
  have hy1 := hd.y1
  have hm1 := hd.m1
  have hml : mlen y m ≤ 31 := by unfold mlen; have := mdays_pos (leap y) m; omega
  have hd31 := hd.d1
  have e12 : m = 12 → mlen y m = 31 := by intro e; subst e; unfold mlen mdays; rfl
  obtain ⟨l, hl⟩ : ∃ v, mlen y m = v := ⟨_, rfl⟩
  rw [hl] at hnx HL hml hd31 e12
  have m1 : Int.tmod (((n % 7 : Nat) : Int) + 1) 7 = (((n + 1) % 7 : Nat) : Int) := by rw [Int.tmod_eq_emod_of_nonneg (by omega)]; omega
  have m2 : (((n % 7 : Nat) : Int) + 1) % 7 = (((n + 1) % 7 : Nat) : Int) := by omega
  have hw : n % 7 ≤ 6 := by omega
  clear hdm hl
  generalize hs : fmtS y m d = s at cF cQ
  clear hs
  generalize n % 7 = k at m1 m2 hw cW
  generalize (n + 1) % 7 = k' at m1 m2 cV
  have hnx2 : ∃ p q r : Nat, IsDate (n + 1) p q r ∧ ((p = y ∧ q = m ∧ r = d + 1) ∨ (p = y ∧ q = m + 1 ∧ r = 1 ∧ d = l) ∨ (p = y + 1 ∧ q = 1 ∧ r = 1 ∧ m = 12 ∧ d = 31)) := by
    rcases hnx with ⟨_, hx⟩ | ⟨he, _, hx⟩ | ⟨he, hm, _, hx⟩ | ⟨hx, _⟩
    · exact ⟨_, _, _, hx, .inl ⟨rfl, rfl, rfl⟩⟩
    · exact ⟨_, _, _, hx, .inr (.inl ⟨rfl, rfl, rfl, he⟩)⟩
    · exact ⟨_, _, _, hx, .inr (.inr ⟨rfl, rfl, rfl, hm, by rw [he, e12 hm]⟩)⟩
    · unfold maxDay at hx; omega
  clear hnx hd
  obtain ⟨p, q, r, hx, hcase⟩ := hnx2
  have cN := Lib.hid (fun W (hW : Below w.heap.size w W) => datParts_ok hx W (hT.on hW))
  clear hx
  have b0 := Below.refl w.heap.size w
  go_enter Tryd.func8, Tryd.ntmps8
  go_wp2_with fail
  refine (c3.out _ (by assumption)).mono ?_
  rintro e w1 ⟨rfl, b1⟩
  go_wp2_with fail
  refine (cP.out _ (by assumption)).mono ?_
  rintro e w2 ⟨rfl, c⟩
  have b2 := b1.trans (c.mono b1.size)
  clear c b1
  go_wp2_with fail
  refine (cO.out _ (by assumption)).mono ?_
  rintro e w3 ⟨rfl, c⟩
  have b3 := b2.trans (c.mono b2.size)
  clear c b2
  go_wp2_with fail
  refine (cF.out _ (by assumption)).mono ?_
  rintro e w4 ⟨rfl, c⟩
  have b4 := b3.trans (c.mono b3.size)
  clear c b3
  go_wp2_with fail
  refine (cQ.out _ (by assumption)).mono ?_
  rintro e w5 ⟨rfl, c⟩
  have b5 := b4.trans (c.mono b4.size)
  clear c b4
  go_wp2_with fail
  refine (cM.out _ (by assumption)).mono ?_
  rintro e w6 ⟨rfl, c⟩
  have b6 := b5.trans (c.mono b5.size)
  clear c b5
  go_wp2_with fail
  refine (cN.out _ (by assumption)).mono ?_
  rintro e w7 ⟨rfl, c⟩
  have b7 := b6.trans (c.mono b6.size)
  clear c b6
  clear c3 cP cO cF cQ cM cN
  rcases hcase with ⟨rfl, rfl, rfl⟩ | ⟨rfl, rfl, rfl, rfl⟩ | ⟨rfl, rfl, rfl, rfl, rfl⟩
  · go_wp2_with fail
    refine (cV.out _).mono ?_
    rintro e w8 ⟨rfl, rfl⟩
    go_wp2_with fail
    refine (cW.out _).mono ?_
    rintro e w9 ⟨rfl, rfl⟩
    go_wp2
    go_ret
    exact ⟨rfl, b7⟩
  · have t1 : ((m : Int) + 1 == (m : Int)) = false := by simp; omega
    go_wp2_with fail
    refine (HL.out _ (by assumption)).mono ?_
    rintro e w8 ⟨rfl, c⟩
    have b8 := b7.trans (c.mono b7.size)
    clear c b7
    go_wp2_with fail
    refine (cV.out _).mono ?_
    rintro e w9 ⟨rfl, rfl⟩
    go_wp2_with fail
    refine (cW.out _).mono ?_
    rintro e w10 ⟨rfl, rfl⟩
    go_wp2
    go_ret
    exact ⟨rfl, b8⟩
  · have t1 : ((y : Int) + 1 == (y : Int)) = false := by simp; omega
    go_wp2_with fail
    refine (cV.out _).mono ?_
    rintro e w9 ⟨rfl, rfl⟩
    go_wp2_with fail
    refine (cW.out _).mono ?_
    rintro e w10 ⟨rfl, rfl⟩
    go_wp2
    go_ret
    exact ⟨rfl, b7⟩

theorem lawBack_any (n : Int) (w : World) (hT : Tab w) :
    Calls Tryd.prog 8 #[.int .i64 n] w fun e w' => e = .returned (.bool true) ∧ Below w.heap.size w w' := by
  by_cases h : 0 ≤ n ∧ n < 109572
  · obtain ⟨k, rfl⟩ : ∃ k : Nat, n = (k : Int) := ⟨n.toNat, by omega⟩
    exact lawBack_in k (by omega) w hT
  · exact lawBack_out n h w hT

set_option maxHeartbeats 8000000 in
set_option maxRecDepth 100000 in
theorem lawSteps_out (n j : Int) (h : ¬ (0 ≤ n ∧ n ≤ 109572 ∧ -3600 ≤ j ∧ j ≤ 3600)) (w : World) (hT : Tab w) :
    Calls Tryd.prog 9 #[.int .i64 n, .int .i64 j] w fun e w' => e = .returned (.bool true) ∧ Below w.heap.size w w' := by
  have c3 := Lib.hid (fun W (hW : Below w.heap.size w W) => alive_any W (hT.on hW))
  by_cases h1 : n < 0
  · have d1 : decide (n < 0) = true := by simp; omega
    clear h
    have b0 := Below.refl w.heap.size w
    go_enter Tryd.func9, Tryd.ntmps9
    go_wp2_with fail
    refine (c3.out _ (by assumption)).mono ?_
    rintro e w1 ⟨rfl, b1⟩
    go_wp2
    go_ret
    exact ⟨rfl, b1⟩
  have d1 : decide (n < 0) = false := by simp; omega
  by_cases h2 : 109572 < n
  · have d2 : decide (109572 < n) = true := by simp; omega
    clear h
    have b0 := Below.refl w.heap.size w
    go_enter Tryd.func9, Tryd.ntmps9
    go_wp2_with fail
    refine (c3.out _ (by assumption)).mono ?_
    rintro e w1 ⟨rfl, b1⟩
    go_wp2
    go_ret
    exact ⟨rfl, b1⟩
  have d2 : decide (109572 < n) = false := by simp; omega
  by_cases h3 : j < -3600
  · have d3 : decide (j < -3600) = true := by simp; omega
    clear h
    have b0 := Below.refl w.heap.size w
    go_enter Tryd.func9, Tryd.ntmps9
    go_wp2_with fail
    refine (c3.out _ (by assumption)).mono ?_
    rintro e w1 ⟨rfl, b1⟩
    go_wp2
    go_ret
    exact ⟨rfl, b1⟩
  have d3 : decide (j < -3600) = false := by simp; omega
  have d4 : decide (3600 < j) = true := by simp; omega
  clear h
  have b0 := Below.refl w.heap.size w
  go_enter Tryd.func9, Tryd.ntmps9
  go_wp2_with fail
  refine (c3.out _ (by assumption)).mono ?_
  rintro e w1 ⟨rfl, b1⟩
  go_wp2
  go_ret
  exact ⟨rfl, b1⟩

set_option maxHeartbeats 8000000 in
set_option maxRecDepth 100000 in
theorem lawSteps_far {n y m d : Nat} (hd : IsDate n y m d) (j k : Int) (h : -3600 ≤ j ∧ j ≤ 3600) (hk : 12 * (y : Int) + m - 1 + j = k) (ho : ¬ (22800 ≤ k ∧ k ≤ 26399)) (w : World) (hT : Tab w) :
    Calls Tryd.prog 9 #[.int .i64 (n : Int), .int .i64 j] w fun e w' => e = .returned (.bool true) ∧ Below w.heap.size w w' := by
  have c3 := Lib.hid (fun W (hW : Below w.heap.size w W) => alive_any W (hT.on hW))
  have cP := Lib.hid (fun W (hW : Below w.heap.size w W) => datParts_ok hd W (hT.on hW))
  have cM := Lib.hid (fun W (hW : Below w.heap.size w W) => datMonths_off hd j (by rw [hk]; exact ho) W (hT.on hW))
  have hn := hd.le
  unfold maxDay at hn
  have hy1 := hd.y1
  have hm1 := hd.m1
  have hm0 := hd.m0
  have d1 : decide ((n : Int) < 0) = false := by simp
  have d2 : decide ((109572 : Int) < (n : Int)) = false := by simp; omega
  have d3 : decide (j < -3600) = false := by simp; omega
  have d4 : decide (3600 < j) = false := by simp; omega
  clear hd
  by_cases h1 : k < 22800
  · have d5 : decide (k < 22800) = true := by simp; omega
    clear ho
    have b0 := Below.refl w.heap.size w
    go_enter Tryd.func9, Tryd.ntmps9
    go_wp2_with fail
    refine (c3.out _ (by assumption)).mono ?_
    rintro e w1 ⟨rfl, b1⟩
    go_wp2_with fail
    refine (cM.out _ (by assumption)).mono ?_
    rintro e w2 ⟨rfl, c⟩
    have b2 := b1.trans (c.mono b1.size)
    clear c b1
    go_wp2_with fail
    refine (cP.out _ (by assumption)).mono ?_
    rintro e w3 ⟨rfl, c⟩
    have b3 := b2.trans (c.mono b2.size)
    clear c b2
    go_wp2
    go_ret
    exact ⟨rfl, b3⟩
  · have d5 : decide (k < 22800) = false := by simp; omega
    have d6 : decide (26399 < k) = true := by simp; omega
    clear ho
    have b0 := Below.refl w.heap.size w
    go_enter Tryd.func9, Tryd.ntmps9
    go_wp2_with fail
    refine (c3.out _ (by assumption)).mono ?_
    rintro e w1 ⟨rfl, b1⟩
    go_wp2_with fail
    refine (cM.out _ (by assumption)).mono ?_
    rintro e w2 ⟨rfl, c⟩
    have b2 := b1.trans (c.mono b1.size)
    clear c b1
    go_wp2_with fail
    refine (cP.out _ (by assumption)).mono ?_
    rintro e w3 ⟨rfl, c⟩
    have b3 := b2.trans (c.mono b2.size)
    clear c b2
    go_wp2
    go_ret
    exact ⟨rfl, b3⟩

set_option maxHeartbeats 8000000 in
set_option maxRecDepth 100000 in
theorem lawSteps_in {n y m d : Nat} (hd : IsDate n y m d) (j : Int) (k : Nat) (h : -3600 ≤ j ∧ j ≤ 3600) (hk : 12 * (y : Int) + m - 1 + j = k) (ho : 22800 ≤ k ∧ k ≤ 26399) (w : World) (hT : Tab w) :
    Calls Tryd.prog 9 #[.int .i64 (n : Int), .int .i64 j] w fun e w' => e = .returned (.bool true) ∧ Below w.heap.size w w' := by
  obtain ⟨t, ht⟩ := capD_date (k / 12) (k % 12 + 1) d hd.d0 (by omega) (by omega) (by omega) (by omega)
  have c3 := Lib.hid (fun W (hW : Below w.heap.size w W) => alive_any W (hT.on hW))
  have cP := Lib.hid (fun W (hW : Below w.heap.size w W) => datParts_ok hd W (hT.on hW))
  have cM := Lib.hid (fun W (hW : Below w.heap.size w W) => datMonths_in hd j k hk ho ht W (hT.on hW))
  have cQ := Lib.hid (fun W (hW : Below w.heap.size w W) => datParts_ok ht W (hT.on hW))
  have cL := Lib.hid (fun W (hW : Below w.heap.size w W) => datLength_any _ _ _ (lenI_nat (k / 12) (k % 12 + 1) ht.y0 ht.y1 ht.m0 ht.m1) W (hT.on hW))
  have hn := hd.le
  unfold maxDay at hn
  have hy1 := hd.y1
  have hm1 := hd.m1
  have hm0 := hd.m0
  have d1 : decide ((n : Int) < 0) = false := by simp
  have d2 : decide ((109572 : Int) < (n : Int)) = false := by simp; omega
  have d3 : decide (j < -3600) = false := by simp; omega
  have d4 : decide (3600 < j) = false := by simp; omega
  have d5 : decide ((k : Int) < 22800) = false := by simp; omega
  have d6 : decide ((26399 : Int) < (k : Int)) = false := by simp; omega
  have hq : 12 * (k / 12) + (k % 12 + 1) - 1 = k := by omega
  have hqb : k / 12 ≤ 3000 ∧ k % 12 ≤ 11 := by omega
  clear hd ht
  generalize k / 12 = p at *
  generalize k % 12 = q at *
  have t1 : (12 * (p : Int) + ((q : Int) + 1) - 1 == (k : Int)) = true := by simp; omega
  have hml : mlen p (q + 1) ≤ 31 := by unfold mlen; have := mdays_pos (leap p) (q + 1); omega
  by_cases hc : mlen p (q + 1) < d
  · have e1 : capD p (q + 1) d = mlen p (q + 1) := if_pos hc
    rw [e1] at cQ
    obtain ⟨l, hl⟩ : ∃ v, mlen p (q + 1) = v := ⟨_, rfl⟩
    rw [hl] at cQ cL hc hml
    clear e1 hl
    have t2 : ((l : Int) == (d : Int)) = false := by simp; omega
    have t3 : decide (l < d) = true := by simp; omega
    have b0 := Below.refl w.heap.size w
    go_enter Tryd.func9, Tryd.ntmps9
    go_wp2_with fail
    refine (c3.out _ (by assumption)).mono ?_
    rintro e w1 ⟨rfl, b1⟩
    go_wp2_with fail
    refine (cM.out _ (by assumption)).mono ?_
    rintro e w2 ⟨rfl, c⟩
    have b2 := b1.trans (c.mono b1.size)
    clear c b1
    go_wp2_with fail
    refine (cP.out _ (by assumption)).mono ?_
    rintro e w3 ⟨rfl, c⟩
    have b3 := b2.trans (c.mono b2.size)
    clear c b2
    go_wp2_with fail
    refine (cQ.out _ (by assumption)).mono ?_
    rintro e w4 ⟨rfl, c⟩
    have b4 := b3.trans (c.mono b3.size)
    clear c b3
    go_wp2_with fail
    refine (cL.out _ (by assumption)).mono ?_
    rintro e w5 ⟨rfl, c⟩
    have b5 := b4.trans (c.mono b4.size)
    clear c b4
    go_wp2
    go_ret
    exact ⟨rfl, b5⟩
  · have e1 : capD p (q + 1) d = d := if_neg hc
    rw [e1] at cQ
    clear e1
    have b0 := Below.refl w.heap.size w
    go_enter Tryd.func9, Tryd.ntmps9
    go_wp2_with fail
    refine (c3.out _ (by assumption)).mono ?_
    rintro e w1 ⟨rfl, b1⟩
    go_wp2_with fail
    refine (cM.out _ (by assumption)).mono ?_
    rintro e w2 ⟨rfl, c⟩
    have b2 := b1.trans (c.mono b1.size)
    clear c b1
    go_wp2_with fail
    refine (cP.out _ (by assumption)).mono ?_
    rintro e w3 ⟨rfl, c⟩
    have b3 := b2.trans (c.mono b2.size)
    clear c b2
    go_wp2_with fail
    refine (cQ.out _ (by assumption)).mono ?_
    rintro e w4 ⟨rfl, c⟩
    have b4 := b3.trans (c.mono b3.size)
    clear c b3
    go_wp2
    go_ret
    exact ⟨rfl, b4⟩

theorem lawSteps_any (n j : Int) (w : World) (hT : Tab w) :
    Calls Tryd.prog 9 #[.int .i64 n, .int .i64 j] w fun e w' => e = .returned (.bool true) ∧ Below w.heap.size w w' := by
  by_cases h : 0 ≤ n ∧ n ≤ 109572 ∧ -3600 ≤ j ∧ j ≤ 3600
  · obtain ⟨k, rfl⟩ : ∃ k : Nat, n = (k : Int) := ⟨n.toNat, by omega⟩
    obtain ⟨y, m, d, hd⟩ := date_of k (by unfold maxDay; omega)
    by_cases hk : 22800 ≤ 12 * (y : Int) + m - 1 + j ∧ 12 * (y : Int) + m - 1 + j ≤ 26399
    · obtain ⟨q, hq⟩ : ∃ q : Nat, 12 * (y : Int) + m - 1 + j = (q : Int) := ⟨(12 * (y : Int) + m - 1 + j).toNat, by omega⟩
      rw [hq] at hk
      exact lawSteps_in hd j q h.2.2 hq (by omega) w hT
    · exact lawSteps_far hd j _ h.2.2 rfl hk w hT
  · exact lawSteps_out n j h w hT
end Go.Proofs.YtdcmfncocehbhaaDoor
