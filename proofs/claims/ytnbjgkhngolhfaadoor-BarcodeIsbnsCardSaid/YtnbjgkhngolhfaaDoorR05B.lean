/- libraryref05: Make, Parse. -/
import Derived.Test.YtnbjgkhngolhfaaDoorR05A
import Derived.BigQuiet
namespace Go.Proofs.YtnbjgkhngolhfaaDoor
open Go.RowKit Go.PlainAid

theorem mkB_digs (k n : Nat) (hk : k ≤ 9) : (mkB k n).all digB = true := by
  have hdg : ∀ c, c ≤ 9 → digB (dgt c) = true := fun c hc => by rw [digB_iff, dgt_nat c hc]; omega
  have h2 : ∀ m, (digU n m).all digB = true := by
    intro m
    induction m with
    | zero => rfl
    | succ m ih => simp only [digU, List.all_cons, ih, Bool.and_true]; exact hdg _ (by omega)
  unfold mkB
  rw [List.all_cons, hdg k hk, h2]
  rfl
theorem mkB_length (k n : Nat) : (mkB k n).length = 13 := by simp [mkB, digU_length]

set_option maxHeartbeats 8000000 in
theorem refMake_bad (k n : Int) (er : Int) (h : (¬ (k = 2 ∨ k = 3) ∧ er = 1) ∨ ((k = 2 ∨ k = 3) ∧ ¬ (0 ≤ n ∧ n ≤ 9999) ∧ er = 2)) (w : World) :
    Calls Tryd.prog 16 #[.int .i64 k, .int .i64 n] w fun e w' => e = .returned (.tuple #[.string ⟨#[]⟩, .int .i64 er]) ∧ Below w.heap.size w w' := by
  rcases h with ⟨h, rfl⟩ | ⟨h, hn, rfl⟩
  · have t1 : (k != 2) = true := by simp; omega
    have t2 : (k != 3) = true := by simp; omega
    have t3 : (k == 2) = false := by simp; omega
    have t4 : (k == 3) = false := by simp; omega
    clear h
    go_enter Tryd.func16, Tryd.ntmps16
    go_wp2
    go_ret2
    exact ⟨rfl, Below.refl _ _⟩
  · by_cases h0 : n < 0
    · have d1 : decide (n < 0) = true := decide_eq_true h0
      clear hn
      rcases h with rfl | rfl
      all_goals
        go_enter Tryd.func16, Tryd.ntmps16
        go_wp2
        go_ret2
        exact ⟨rfl, Below.refl _ _⟩
    · have d1 : decide (n < 0) = false := decide_eq_false h0
      have d2 : decide (9999 < n) = true := decide_eq_true (by omega)
      clear hn
      rcases h with rfl | rfl
      all_goals
        go_enter Tryd.func16, Tryd.ntmps16
        go_wp2
        go_ret2
        exact ⟨rfl, Below.refl _ _⟩

set_option maxHeartbeats 16000000 in
set_option maxRecDepth 100000 in
theorem refMake_ok (k n : Nat) (hk : k = 2 ∨ k = 3) (hn : n ≤ 9999) (w : World) :
    Calls Tryd.prog 16 #[.int .i64 (k : Int), .int .i64 (n : Int)] w fun e w' => e = .returned (.tuple #[.string (S (mkL k n)), .int .i64 0]) ∧ Below w.heap.size w w' := by
  have CD := Lib.hid (fun (m : Nat) (hm : m ≤ 9) W => refdigit_any m hm W)
  have CL := Lib.hid (fun W => refluhn_any (mkB k n) (by rw [mkB_length]; decide) (mkB_digs k n (by omega)) W)
  have hcl : luhnC (mkB k n) ≤ 9 := comp_le _
  have HE : RowKit.Hid (S [dgt k] ++ S (digU n 12) = S (mkB k n)) := S_append _ _
  have HF : RowKit.Hid (S (mkB k n) ++ S [dgt (luhnC (mkB k n))] = S (mkL k n)) := S_append _ _
  have hs1 : (S (mkB k n)).size = 13 := by rw [S_size, mkB_length]
  have hs2 : (S [dgt (luhnC (mkB k n))]).size = 1 := rfl
  have hs3 : (S [dgt k]).size = 1 := rfl
  have hs4 : (S (digU n 12)).size = 12 := by rw [S_size, digU_length]
  have cK := Lib.hid (CD.out k (by omega))
  have cC := Lib.hid (CD.out (luhnC (mkB k n)) hcl)
  generalize luhnC (mkB k n) = lc at *
  generalize S (mkL k n) = res at *
  generalize S (mkB k n) = sb at *
  have b0 := Below.refl w.heap.size w
  have t1 : ((k : Int) != 2 && (k : Int) != 3) = false := by rcases hk with rfl | rfl <;> rfl
  have hk2 : ((k : Int) != 2) = false ∨ ((k : Int) != 2) = true ∧ ((k : Int) != 3) = false := by
    rcases hk with rfl | rfl
    · exact .inl rfl
    · exact .inr ⟨rfl, rfl⟩
  have d1 : decide ((n : Int) < 0) = false := by simp
  have d2 : decide ((9999 : Int) < (n : Int)) = false := by simp; omega
  clear t1
  rcases hk2 with t1 | ⟨t1, t2⟩
  all_goals
    go_enter Tryd.func16, Tryd.ntmps16
    go_wp2
    go_loopw [1, 6, 7] (fun nn st i wr => ∃ j : Nat, j ≤ 12 ∧ i = .int .i64 (j : Int) ∧ nn = .int .i64 ((n / 10 ^ j : Nat) : Int) ∧ st = .string (S (digU n j)) ∧ Below w.heap.size w wr) (fun _ _ i _ => 12 - (intOf i).toNat)
    case atStart => exact ⟨0, Nat.zero_le _, rfl, by simp, rfl, b0⟩
    case round =>
      obtain ⟨j, hj, rfl, rfl, rfl, hbw⟩ := hrel
      clear b0
      by_cases hlt : j < 12
      · have hp : n / 10 ^ j ≤ n := Nat.div_le_self _ _
        have HP : RowKit.Hid (n / 10 ^ (j + 1) = n / 10 ^ j / 10) := by unfold RowKit.Hid; rw [Nat.pow_succ, Nat.div_div_eq_div_mul]
        have HD : RowKit.Hid (S [dgt (n / 10 ^ j % 10)] ++ S (digU n j) = S (digU n (j + 1))) := S_append _ _
        have hz1 : (S (digU n j)).size ≤ 12 := by rw [S_size, digU_length]; omega
        have hz2 : (S [dgt (n / 10 ^ j % 10)]).size = 1 := rfl
        have cJ := Lib.hid (CD.out (n / 10 ^ j % 10) (by omega))
        generalize n / 10 ^ j = q at HP HD hp hz2 cJ
        have m1 : Int.tmod (q : Int) 10 = ((q % 10 : Nat) : Int) := by rw [Int.tmod_eq_emod_of_nonneg (by omega)]; omega
        have m2 : (q : Int) % 10 = ((q % 10 : Nat) : Int) := by omega
        have q1 : Int.tdiv (q : Int) 10 = ((q / 10 : Nat) : Int) := by rw [Int.tdiv_eq_ediv_of_nonneg (by omega)]; omega
        have q2 : (q : Int) / 10 = ((q / 10 : Nat) : Int) := by omega
        have hr : q % 10 ≤ 9 := by omega
        have hq : q / 10 ≤ 9999 := by omega
        generalize q % 10 = r at *
        generalize q / 10 = q' at *
        generalize S (digU n j) = st at *
        generalize S [dgt r] = sd at *
        go_wp2_with fail
        refine (cJ.out _).mono ?_
        rintro e w2 ⟨rfl, c⟩
        have hb2 := hbw.trans (c.mono hbw.size)
        clear c
        go_wp2
        go_roundw
        case rel => exact ⟨j + 1, by omega, by go_num, by rw [HP.out], by rw [HD.out], hb2⟩
        case measure => simp [intOf]; omega
      · obtain rfl : j = 12 := by omega
        generalize S (digU n 12) = su at *
        generalize S [dgt k] = sk at *
        generalize S [dgt lc] = sl at *
        have hE := HE.out
        go_wp2_with fail
        refine (cK.out _).mono ?_
        rintro e w2 ⟨rfl, c⟩
        have hb2 := hbw.trans (c.mono hbw.size)
        clear c
        go_wp2_with fail
        refine (CL.out _).mono ?_
        rintro e w3 ⟨rfl, rfl⟩
        go_wp2_with fail
        refine (cC.out _).mono ?_
        rintro e w4 ⟨rfl, c⟩
        have hb4 := hb2.trans (c.mono hb2.size)
        clear c
        go_wp2
        go_ret2
        rw [← HF.out]
        exact ⟨rfl, hb4⟩

theorem refMake_any (k n : Int) (l : List UInt8) (er : Int) (h : makeI k n = (l, er)) (w : World) :
    Calls Tryd.prog 16 #[.int .i64 k, .int .i64 n] w fun e w' => e = .returned (.tuple #[.string (S l), .int .i64 er]) ∧ Below w.heap.size w w' := by
  unfold makeI at h
  by_cases hk : k = 2 ∨ k = 3
  · rw [if_pos hk] at h
    by_cases hn : 0 ≤ n ∧ n ≤ 9999
    · rw [if_pos hn] at h
      simp only [Prod.mk.injEq] at h
      obtain ⟨rfl, rfl⟩ := h
      obtain ⟨a, rfl⟩ : ∃ a : Nat, k = (a : Int) := ⟨k.toNat, by omega⟩
      obtain ⟨b, rfl⟩ : ∃ b : Nat, n = (b : Int) := ⟨n.toNat, by omega⟩
      exact refMake_ok a b (by omega) (by omega) w
    · rw [if_neg hn] at h
      simp only [Prod.mk.injEq] at h
      obtain ⟨rfl, rfl⟩ := h
      exact refMake_bad k n 2 (.inr ⟨hk, hn, rfl⟩) w
  · rw [if_neg hk] at h
    simp only [Prod.mk.injEq] at h
    obtain ⟨rfl, rfl⟩ := h
    exact refMake_bad k n 1 (.inl ⟨hk, rfl⟩) w

/-! Parse. -/
theorem results_tmp3 {fn : Func} {t u v : Tmp} (h : fn.results = #[.tmp t, .tmp u, .tmp v]) (tmps : Array Value) (P : Program) (w : World) :
    (results fn tmps).run P w = .ok (.tuple #[tmps.getD t undef, tmps.getD u undef, tmps.getD v undef]) w := by
  simp [results, h]

set_option maxHeartbeats 8000000 in
theorem refParse_form (l : List UInt8) (hz : l.length ≤ 1000000) (h : formB l = false) (w : World) :
    Calls Tryd.prog 18 #[.string (S l)] w fun e w' => e = .returned (.tuple #[.int .i64 0, .int .i64 0, .int .i64 3]) ∧ Below w.heap.size w w' := by
  have hbt := get_bt (S l)
  obtain ⟨n, hn⟩ : ∃ n, l.length = n := ⟨_, rfl⟩
  have hsz : (S l).size = n := by rw [S_size, hn]
  by_cases h14 : n = 14
  · have t1 : ((n : Int) != 14) = false := by rw [h14]; rfl
    cases hd : l.all digB
    · have c1 := Lib.hid (fun W => refDigs_any l hz false hd W)
      clear h hd
      generalize S l = s at *
      go_enter Tryd.func18, Tryd.ntmps18
      go_wp2_with fail
      refine (c1.out _).mono ?_
      rintro e w1 ⟨rfl, rfl⟩
      go_wp2
      (try simp only [Exit.inBlock, Exit.then])
      refine bodyPost_ret (results_tmp3 rfl _ _ _) rfl ?_
      exact ⟨rfl, Below.refl _ _⟩
    · have c1 := Lib.hid (fun W => refDigs_any l hz true hd W)
      have hb0 := bt_S l 0
      have hx : l.getD 0 0 ≠ 50 ∧ l.getD 0 0 ≠ 51 := by
        unfold formB at h
        rw [hd, hn, decide_eq_true h14] at h
        simpa using h
      have t2 : (bt (S l) 0 == 50) = false := by
        have : (l.getD 0 0).toNat ≠ 50 := fun h => hx.1 (UInt8.toNat_inj.1 h)
        simp; omega
      have t3 : (bt (S l) 0 == 51) = false := by
        have : (l.getD 0 0).toNat ≠ 51 := fun h => hx.2 (UInt8.toNat_inj.1 h)
        simp; omega
      have t4 : (bt (S l) 0 != 50) = true := by rw [bne, t2]; rfl
      have t5 : (bt (S l) 0 != 51) = true := by rw [bne, t3]; rfl
      have i1 : (0 : Int) < (n : Int) := by omega
      have n1 : 0 < n := by omega
      clear h hd hx hb0
      generalize S l = s at *
      go_enter Tryd.func18, Tryd.ntmps18
      go_wp2_with fail
      refine (c1.out _).mono ?_
      rintro e w1 ⟨rfl, rfl⟩
      go_wp2
      (try simp only [Exit.inBlock, Exit.then])
      refine bodyPost_ret (results_tmp3 rfl _ _ _) rfl ?_
      exact ⟨rfl, Below.refl _ _⟩
  · have t1 : ((n : Int) != 14) = true := by simp; omega
    clear h
    generalize S l = s at *
    go_enter Tryd.func18, Tryd.ntmps18
    go_wp2
    (try simp only [Exit.inBlock, Exit.then])
    refine bodyPost_ret (results_tmp3 rfl _ _ _) rfl ?_
    exact ⟨rfl, Below.refl _ _⟩

theorem valL_le (l : List UInt8) (a : Nat) (k : Nat) (h : ∀ i, i < k → dv l (a + i) ≤ 9) : valL l a k + 1 ≤ 10 ^ k := by
  induction k with
  | zero => simp [valL]
  | succ k ih =>
    have := ih (fun i hi => h i (by omega))
    have := h k (by omega)
    simp only [valL, Nat.pow_succ]
    omega

set_option maxHeartbeats 16000000 in
set_option maxRecDepth 100000 in
theorem refParse_in (l : List UInt8) (h : formB l = true) (x y er : Int) (hx : parseI l = (x, y, er)) (w : World) :
    Calls Tryd.prog 18 #[.string (S l)] w fun e w' => e = .returned (.tuple #[.int .i64 x, .int .i64 y, .int .i64 er]) ∧ Below w.heap.size w w' := by
  have hbt := get_bt (S l)
  unfold parseI at hx
  rw [if_pos h] at hx
  unfold formB at h
  simp only [Bool.and_eq_true, decide_eq_true_eq, Bool.or_eq_true] at h
  obtain ⟨⟨h14, hd⟩, h23⟩ := h
  have hsz : (S l).size = 14 := by rw [S_size, h14]
  have hdg := (all_getD l digB).1 hd
  have c1 := Lib.hid (fun W => refDigs_any l (by omega) true hd W)
  have hd13 : (l.take 13).all digB = true := by
    rw [List.all_eq_true] at hd ⊢
    exact fun x hx => hd x (List.mem_of_mem_take hx)
  have e13 : (S l).extract 0 13 = S (l.take 13) := by rw [S_extract]; rfl
  have c2 := Lib.hid (fun W => refluhn_any (l.take 13) (by rw [List.length_take]; omega) hd13 W)
  rw [← e13] at c2
  have hv : ∀ i, i < 14 → bt (S l) i = 48 + ((dv l i : Nat) : Int) ∧ dv l i ≤ 9 := by
    intro i hi
    have h1 := dv_le l i (hdg i (by omega))
    have h2 := bt_S l i
    omega
  have hv0 := hv 0 (by decide)
  have hv13 := hv 13 (by decide)
  have HV := Lib.hid hv
  have HX := Lib.hid hx
  have HL : RowKit.Hid (∀ k, k ≤ 12 → valL l 1 k ≤ 999999999999) := by
    intro k hk
    have h1 := valL_le l 1 k (fun i hi => (hv (1 + i) (by omega)).2)
    have h2 : 10 ^ k ≤ 10 ^ 12 := Nat.pow_le_pow_right (by decide) hk
    omega
  have t23 : (bt (S l) 0 != 50) = false ∨ (bt (S l) 0 != 50) = true ∧ (bt (S l) 0 != 51) = false := by
    have hb0 := bt_S l 0
    rcases h23 with h | h
    · rw [h] at hb0
      rw [hb0]
      exact .inl rfl
    · rw [h] at hb0
      rw [hb0]
      exact .inr ⟨rfl, rfl⟩
  have hc9 : luhnC (l.take 13) ≤ 9 := comp_le _
  clear h23 hd hdg hd13 e13 hv hx
  generalize luhnC (l.take 13) = lc at *
  obtain ⟨ex, hex⟩ : ∃ ex, (S l).extract 0 13 = ex := ⟨_, rfl⟩
  rw [hex] at c2
  generalize S l = s at *
  obtain ⟨k13, h13⟩ : ∃ k13, dv l 13 = k13 := ⟨_, rfl⟩
  rw [h13] at hv13 HX
  obtain ⟨hv13a, hv13b⟩ := hv13
  obtain ⟨hv0a, hv0b⟩ := hv0
  have HV0 := Lib.hid hv0a
  clear hv0a
  rcases t23 with t2 | ⟨t2, t3⟩
  all_goals
    by_cases hne : lc = k13
    · have t4 : ((lc : Int) != (k13 : Int)) = false := by simp; omega
      have HX2 := Lib.hid (show (if valL l 1 12 ≤ 9999 then (((dv l 0 : Nat) : Int), ((valL l 1 12 : Nat) : Int), (0 : Int)) else (0, 0, 2)) = (x, y, er) by have h := HX.out; rwa [if_pos hne] at h)
      clear HX
      go_enter Tryd.func18, Tryd.ntmps18
      go_wp2_with fail
      refine (c1.out _).mono ?_
      rintro e w1 ⟨rfl, rfl⟩
      have hb0 := Below.refl w1.heap.size w1
      go_wp2
      go_quiet (first | (go_at_call 26; exact Calls.quiet_of_same (c2.out _)))
      go_wp2
      go_loopw [5, 6] (fun v i wr => ∃ k : Nat, k ≤ 12 ∧ i = .int .i64 ((k + 1 : Nat) : Int) ∧ v = .int .i64 ((valL l 1 k : Nat) : Int) ∧ Below w1.heap.size w1 wr) (fun _ i _ => 14 - (intOf i).toNat)
      case atStart => exact ⟨0, Nat.zero_le _, rfl, rfl, ⟨hb0.os, hb0.tape, hb0.output, hb0.size, hb0.block⟩⟩
      case round =>
        obtain ⟨k, hk, rfl, rfl, hbw⟩ := hrel
        clear hb0
        by_cases hlt : k < 12
        · have hvk := HV.out (k + 1) (by omega)
          have HS : RowKit.Hid (valL l 1 (k + 1) = valL l 1 k * 10 + dv l (k + 1)) := by unfold RowKit.Hid; rw [valL, Nat.add_comm 1 k]
          have hle := HL.out k hk
          obtain ⟨hvk1, hvk2⟩ := hvk
          generalize valL l 1 k = vv at *
          generalize dv l (k + 1) = d at *
          have i1 : ((k + 1 : Nat) : Int) < 14 := by omega
          have i2 : ((k + 1 : Nat) : Int) < 13 := by omega
          have i3 : (k : Int) + 1 < 14 := by omega
          have i4 : (k : Int) + 1 < 13 := by omega
          go_wp2
          go_roundw
          case rel => exact ⟨k + 1, by omega, by go_num, by rw [HS.out]; go_num, hbw⟩
          case measure => simp [intOf]; omega
        · obtain rfl : k = 12 := by omega
          have hle := HL.out 12 (Nat.le_refl _)
          have hx2 := HX2.out
          generalize valL l 1 12 = vv at *
          by_cases hbig : 9999 < vv
          · have t5 : decide ((9999 : Int) < (vv : Int)) = true := by simp; omega
            rw [if_neg (by omega)] at hx2
            simp only [Prod.mk.injEq] at hx2
            obtain ⟨rfl, rfl, rfl⟩ := hx2
            clear HX2
            go_wp2
            (try simp only [Exit.inBlock, Exit.then])
            refine bodyPost_ret (results_tmp3 rfl _ _ _) rfl ?_
            exact ⟨rfl, hbw⟩
          · have t5 : decide ((9999 : Int) < (vv : Int)) = false := by simp; omega
            rw [if_pos (by omega)] at hx2
            simp only [Prod.mk.injEq] at hx2
            obtain ⟨rfl, rfl, rfl⟩ := hx2
            clear HX2
            have hv0a := HV0.out
            clear t2 HV0
            go_wp2
            (try simp only [Exit.inBlock, Exit.then])
            refine bodyPost_ret (results_tmp3 rfl _ _ _) rfl ?_
            refine ⟨?_, hbw⟩
            first | rfl | (have e0 : (48 : Int) + ((dv l 0 : Nat) : Int) - 48 = ((dv l 0 : Nat) : Int) := by omega
                           simp [e0])
    · have t4 : ((lc : Int) != (k13 : Int)) = true := by simp; omega
      have hx2 := HX.out
      rw [if_neg hne] at hx2
      simp only [Prod.mk.injEq] at hx2
      obtain ⟨rfl, rfl, rfl⟩ := hx2
      clear HX
      go_enter Tryd.func18, Tryd.ntmps18
      go_wp2_with fail
      refine (c1.out _).mono ?_
      rintro e w1 ⟨rfl, rfl⟩
      have hb0 := Below.refl w1.heap.size w1
      go_wp2
      go_quiet (first | (go_at_call 26; exact Calls.quiet_of_same (c2.out _)))
      go_wp2
      (try simp only [Exit.inBlock, Exit.then])
      refine bodyPost_ret (results_tmp3 rfl _ _ _) rfl ?_
      exact ⟨rfl, ⟨hb0.os, hb0.tape, hb0.output, hb0.size, hb0.block⟩⟩

theorem refParse_any (l : List UInt8) (hz : l.length ≤ 1000000) (x y er : Int) (hx : parseI l = (x, y, er)) (w : World) :
    Calls Tryd.prog 18 #[.string (S l)] w fun e w' => e = .returned (.tuple #[.int .i64 x, .int .i64 y, .int .i64 er]) ∧ Below w.heap.size w w' := by
  cases hf : formB l
  · unfold parseI at hx
    rw [hf, if_neg (fun h => by cases h)] at hx
    simp only [Prod.mk.injEq] at hx
    obtain ⟨rfl, rfl, rfl⟩ := hx
    exact refParse_form l hz hf w
  · exact refParse_in l hf x y er hx w
end Go.Proofs.YtnbjgkhngolhfaaDoor
