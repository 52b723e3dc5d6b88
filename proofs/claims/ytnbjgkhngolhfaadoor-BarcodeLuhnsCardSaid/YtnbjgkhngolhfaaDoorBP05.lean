/- Package barcode: Parse. -/
import Derived.Test.YtnbjgkhngolhfaaDoorTab05
import Derived.Test.YtnbjgkhngolhfaaDoorBB05
import Derived.BigQuiet
namespace Go.Proofs.YtnbjgkhngolhfaaDoor
open Go.RowKit Go.PlainAid

set_option maxHeartbeats 8000000 in
theorem barParse_form (l : List UInt8) (hz : l.length ≤ 1000000) (h : formB l = false) (w : World) :
    Calls Tryd.prog 17 #[.string (S l)] w fun e w' => e = .returned (.tuple #[.int .i64 0, .int .i64 0, .int .i64 3]) ∧ Below w.heap.size w w' := by
  have hbt := get_bt (S l)
  obtain ⟨n, hn⟩ : ∃ n, l.length = n := ⟨_, rfl⟩
  have hsz : (S l).size = n := by rw [S_size, hn]
  by_cases h14 : n = 14
  · have t1 : ((n : Int) != 14) = false := by rw [h14]; rfl
    cases hd : l.all digB
    · have c1 := Lib.hid (fun W => barnum_any l hz false hd W)
      clear h hd
      generalize S l = s at *
      go_enter Tryd.func17, Tryd.ntmps17
      go_wp2_with fail
      refine (c1.out _).mono ?_
      rintro e w1 ⟨rfl, rfl⟩
      go_wp2
      (try simp only [Exit.inBlock, Exit.then])
      refine bodyPost_ret (results_tmp3 rfl _ _ _) rfl ?_
      exact ⟨rfl, Below.refl _ _⟩
    · have c1 := Lib.hid (fun W => barnum_any l hz true hd W)
      have hb0 := bt_S l 0
      have hx : l.getD 0 0 ≠ 50 ∧ l.getD 0 0 ≠ 51 := by
        unfold formB at h
        rw [hd, hn, decide_eq_true h14] at h
        simpa using h
      obtain ⟨hd9, hdb⟩ := dv_le l 0 ((all_getD l digB).1 hd 0 (by omega))
      have hv : bt (S l) 0 = 48 + ((dv l 0 : Nat) : Int) := by rw [hb0, hdb]; omega
      have cV := Lib.hid (fun W => barvalue_d (48 + ((dv l 0 : Nat) : Int)) (dv l 0) rfl hd9 W)
      have t2 : (((dv l 0 : Nat) : Int) != 2) = true := by
        have : (l.getD 0 0).toNat ≠ 50 := fun h => hx.1 (UInt8.toNat_inj.1 h)
        simp; omega
      have t3 : (((dv l 0 : Nat) : Int) != 3) = true := by
        have : (l.getD 0 0).toNat ≠ 51 := fun h => hx.2 (UInt8.toNat_inj.1 h)
        simp; omega
      have i1 : (0 : Int) < (n : Int) := by omega
      have n1 : 0 < n := by omega
      clear h hd hx hb0 hdb
      generalize dv l 0 = d at *
      generalize S l = s at *
      go_enter Tryd.func17, Tryd.ntmps17
      go_wp2_with fail
      refine (c1.out _).mono ?_
      rintro e w1 ⟨rfl, rfl⟩
      go_wp2_with fail
      refine (cV.out _).mono ?_
      rintro e w1 ⟨rfl, rfl⟩
      go_wp2
      (try simp only [Exit.inBlock, Exit.then])
      refine bodyPost_ret (results_tmp3 rfl _ _ _) rfl ?_
      exact ⟨rfl, Below.refl _ _⟩
  · have t1 : ((n : Int) != 14) = true := by simp; omega
    clear h
    generalize S l = s at *
    go_enter Tryd.func17, Tryd.ntmps17
    go_wp2
    (try simp only [Exit.inBlock, Exit.then])
    refine bodyPost_ret (results_tmp3 rfl _ _ _) rfl ?_
    exact ⟨rfl, Below.refl _ _⟩

set_option maxHeartbeats 16000000 in
set_option maxRecDepth 100000 in
theorem barParse_in (l : List UInt8) (h : formB l = true) (x y er : Int) (hx : parseI l = (x, y, er)) (w : World) :
    Calls Tryd.prog 17 #[.string (S l)] w fun e w' => e = .returned (.tuple #[.int .i64 x, .int .i64 y, .int .i64 er]) ∧ Below w.heap.size w w' := by
  have hbt := get_bt (S l)
  unfold parseI at hx
  rw [if_pos h] at hx
  unfold formB at h
  simp only [Bool.and_eq_true, decide_eq_true_eq, Bool.or_eq_true] at h
  obtain ⟨⟨h14, hd⟩, h23⟩ := h
  have hsz : (S l).size = 14 := by rw [S_size, h14]
  have hdg := (all_getD l digB).1 hd
  have c1 := Lib.hid (fun W => barnum_any l (by omega) true hd W)
  have hd13 : (l.take 13).all digB = true := by
    rw [List.all_eq_true] at hd ⊢
    exact fun x hx => hd x (List.mem_of_mem_take hx)
  have e13 : (S l).extract 0 13 = S (l.take 13) := by rw [S_extract]; rfl
  have e12 : (S (l.take 13)).extract 1 13 = S ((l.drop 1).take 12) := by rw [S_extract, List.take_take, Nat.min_self, List.drop_take]
  have z13 : (S (l.take 13)).size = 13 := by rw [S_size, List.length_take]; omega
  have c2 := Lib.hid (fun W => barluhn_any (l.take 13) (by rw [List.length_take]; omega) hd13 W)
  have c5 := Lib.hid (fun W => atoi_any l 1 12 (by decide) (by decide) (by omega) (fun i hi => hdg (1 + i) (by omega)) W)
  have hv : ∀ i, i < 14 → bt (S l) i = 48 + ((dv l i : Nat) : Int) ∧ dv l i ≤ 9 := by
    intro i hi
    have h1 := dv_le l i (hdg i (by omega))
    have h2 := bt_S l i
    omega
  obtain ⟨hv0, hn0⟩ := hv 0 (by decide)
  obtain ⟨hv13, hn13⟩ := hv 13 (by decide)
  have c3 := Lib.hid (fun W => barvalue_d (48 + ((dv l 0 : Nat) : Int)) (dv l 0) rfl hn0 W)
  have c4 := Lib.hid (fun W => barvalue_d (48 + ((dv l 13 : Nat) : Int)) (dv l 13) rfl hn13 W)
  have hle : valL l 1 12 ≤ 999999999999 := by
    have h1 := valL_le l 1 12 (fun i hi => (hv (1 + i) (by omega)).2)
    omega
  have t23 : (((dv l 0 : Nat) : Int) != 2) = false ∨ (((dv l 0 : Nat) : Int) != 2) = true ∧ (((dv l 0 : Nat) : Int) != 3) = false := by
    have e : dv l 0 = (l.getD 0 0).toNat - 48 := rfl
    rcases h23 with h | h
    · rw [h] at e
      rw [e]
      exact .inl rfl
    · rw [h] at e
      rw [e]
      exact .inr ⟨rfl, rfl⟩
  have hc9 : luhnC (l.take 13) ≤ 9 := comp_le _
  clear h23 hd hdg hd13 hv
  generalize luhnC (l.take 13) = lc at *
  generalize valL l 1 12 = vv at *
  generalize dv l 13 = k13 at *
  generalize dv l 0 = k0 at *
  generalize S ((l.drop 1).take 12) = s12 at *
  generalize S (l.take 13) = s13 at *
  generalize S l = s at *
  have i13 : (13 : Int) < 14 := by decide
  have b0 := Below.refl w.heap.size w
  rcases t23 with t2 | ⟨t2, t3⟩
  all_goals
    by_cases hne : lc = k13
    · have t4 : ((lc : Int) != (k13 : Int)) = false := by simp; omega
      rw [if_pos hne] at hx
      by_cases hbig : 9999 < vv
      · have t5 : decide ((9999 : Int) < (vv : Int)) = true := by simp; omega
        rw [if_neg (by omega)] at hx
        simp only [Prod.mk.injEq] at hx
        obtain ⟨rfl, rfl, rfl⟩ := hx
        go_enter Tryd.func17, Tryd.ntmps17
        go_wp2_with fail
        refine (c1.out _).mono ?_
        rintro e w1 ⟨rfl, rfl⟩
        go_wp2_with fail
        refine (c3.out _).mono ?_
        rintro e w1 ⟨rfl, rfl⟩
        go_wp2
        go_region
        go_wp2_with fail
        refine (c2.out _).mono ?_
        rintro e w2 ⟨rfl, rfl⟩
        go_wp2_with fail
        refine (c4.out _).mono ?_
        rintro e w2 ⟨rfl, rfl⟩
        go_wp2_with fail
        refine (c5.out _).mono ?_
        rintro e w2 ⟨rfl, c⟩
        go_wp2
        (try simp only [Exit.inBlock, Exit.then])
        refine bodyPost_ret (results_tmp3 rfl _ _ _) rfl ?_
        exact ⟨rfl, b0.drew.trans (c.mono (Nat.le_refl _))⟩
      · have t5 : decide ((9999 : Int) < (vv : Int)) = false := by simp; omega
        rw [if_pos (by omega)] at hx
        simp only [Prod.mk.injEq] at hx
        obtain ⟨rfl, rfl, rfl⟩ := hx
        go_enter Tryd.func17, Tryd.ntmps17
        go_wp2_with fail
        refine (c1.out _).mono ?_
        rintro e w1 ⟨rfl, rfl⟩
        go_wp2_with fail
        refine (c3.out _).mono ?_
        rintro e w1 ⟨rfl, rfl⟩
        go_wp2
        go_region
        go_wp2_with fail
        refine (c2.out _).mono ?_
        rintro e w2 ⟨rfl, rfl⟩
        go_wp2_with fail
        refine (c4.out _).mono ?_
        rintro e w2 ⟨rfl, rfl⟩
        go_wp2_with fail
        refine (c5.out _).mono ?_
        rintro e w2 ⟨rfl, c⟩
        go_wp2
        (try simp only [Exit.inBlock, Exit.then])
        refine bodyPost_ret (results_tmp3 rfl _ _ _) rfl ?_
        exact ⟨rfl, b0.drew.trans (c.mono (Nat.le_refl _))⟩
    · have t4 : ((lc : Int) != (k13 : Int)) = true := by simp; omega
      rw [if_neg hne] at hx
      simp only [Prod.mk.injEq] at hx
      obtain ⟨rfl, rfl, rfl⟩ := hx
      go_enter Tryd.func17, Tryd.ntmps17
      go_wp2_with fail
      refine (c1.out _).mono ?_
      rintro e w1 ⟨rfl, rfl⟩
      go_wp2_with fail
      refine (c3.out _).mono ?_
      rintro e w1 ⟨rfl, rfl⟩
      go_wp2
      go_region
      go_wp2_with fail
      refine (c2.out _).mono ?_
      rintro e w2 ⟨rfl, rfl⟩
      go_wp2_with fail
      refine (c4.out _).mono ?_
      rintro e w2 ⟨rfl, rfl⟩
      go_wp2
      (try simp only [Exit.inBlock, Exit.then])
      refine bodyPost_ret (results_tmp3 rfl _ _ _) rfl ?_
      exact ⟨rfl, ⟨b0.os, b0.tape, b0.output, b0.size, b0.block⟩⟩

theorem barParse_any (l : List UInt8) (hz : l.length ≤ 1000000) (x y er : Int) (hx : parseI l = (x, y, er)) (w : World) :
    Calls Tryd.prog 17 #[.string (S l)] w fun e w' => e = .returned (.tuple #[.int .i64 x, .int .i64 y, .int .i64 er]) ∧ Below w.heap.size w w' := by
  cases hf : formB l
  · unfold parseI at hx
    rw [hf, if_neg (fun h => by cases h)] at hx
    simp only [Prod.mk.injEq] at hx
    obtain ⟨rfl, rfl, rfl⟩ := hx
    exact barParse_form l hz hf w
  · exact barParse_in l hf x y er hx w
end Go.Proofs.YtnbjgkhngolhfaaDoor
