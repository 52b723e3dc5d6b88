/- Package digest: Check. -/
import Derived.Test.YtdaoccmhehekaaaDoorDF06
import Derived.Test.YtdaoccmhehekaaaDoorR06H
namespace Go.Proofs.YtdaoccmhehekaaaDoor
open Go.RowKit Go.PlainAid

theorem BS.bl {v : Value} {M : List (List UInt8)} {w : World} (h : BS v M w) : BL v M w := by
  obtain ⟨g, o, cap, rfl, hc, hm, hg, hx⟩ := h
  exact ⟨_, cap, rfl, hc, hm, (fun h => by cases h), fun i hi => ⟨g, o, rfl, hg, hx i hi⟩⟩
theorem climb_beside (f : Nat) (d : List UInt8) (i n : Nat) (p : List (List UInt8)) (h : 1 < n) (hf : n ≤ f + 1) (hi : i < n) : climb f d i n p =
    if besideN i < n then (if p = [] then none else climb f (if i % 2 = 1 then joinL (p.getD 0 []) d else joinL d (p.getD 0 [])) (i / 2) ((n + 1) / 2) (p.drop 1)) else climb f d (i / 2) ((n + 1) / 2) p := by
  rw [climb_step f d i n p h hf]
  have e1 : p.getD 0 [] = p.headD [] := by cases p <;> rfl
  have e2 : p.drop 1 = p.tail := by cases p <;> rfl
  rw [e1, e2]
  unfold besideN
  by_cases ho : i % 2 = 1
  · rw [if_pos ho, if_pos ho, if_pos ho, if_pos (show i - 1 < n by omega)]
  · rw [if_neg ho, if_neg ho, if_neg ho]

set_option maxHeartbeats 4000000 in
theorem digCheck_bad (root leaf : ByteArray) (i n : Int) (h : ¬ (1 ≤ n ∧ n ≤ 4096 ∧ 0 ≤ i ∧ i < n)) (v : Value) (w : World) :
    Calls Tryd.prog 23 #[.string root, .string leaf, .int .i64 i, .int .i64 n, v] w fun e w' => e = .returned (.bool false) ∧ w' = w := by
  by_cases h1 : n < 1
  · have d1 : decide (n < 1) = true := decide_eq_true h1
    clear h
    go_enter Tryd.func23, Tryd.ntmps23
    go_wp2
    go_ret
    exact ⟨rfl, rfl⟩
  have d1 : decide (n < 1) = false := decide_eq_false h1
  by_cases h2 : 4096 < n
  · have d2 : decide (4096 < n) = true := decide_eq_true h2
    clear h
    go_enter Tryd.func23, Tryd.ntmps23
    go_wp2
    go_ret
    exact ⟨rfl, rfl⟩
  have d2 : decide (4096 < n) = false := decide_eq_false h2
  by_cases h3 : i < 0
  · have d3 : decide (i < 0) = true := decide_eq_true h3
    clear h
    go_enter Tryd.func23, Tryd.ntmps23
    go_wp2
    go_ret
    exact ⟨rfl, rfl⟩
  have d3 : decide (i < 0) = false := decide_eq_false h3
  have d4 : decide (n ≤ i) = true := decide_eq_true (by omega)
  clear h
  go_enter Tryd.func23, Tryd.ntmps23
  go_wp2
  go_ret
  exact ⟨rfl, rfl⟩

set_option maxHeartbeats 16000000 in
theorem digCheck_in (root leaf : List UInt8) (hlf : leaf.length ≤ 100000) (i n : Nat) (hn1 : 1 ≤ n) (hn : n ≤ 4096) (hi : i < n) (P : List (List UInt8)) (hz : P.length ≤ 100000) (hx : ∀ i, i < P.length → (P.getD i []).length ≤ 100000) (v : Value) (w : World) (hv : BL v P w) (b : Bool) (hb : decide (climb 4096 (leafL leaf) i n P = some root) = b) :
    Calls Tryd.prog 23 #[.string (S root), .string (S leaf), .int .i64 (i : Int), .int .i64 (n : Int), v] w fun e w' => e = .returned (.bool b) ∧ Below w.heap.size w w' := by
  obtain ⟨a, cap, rfl, hcap, hmax⟩ := hv.length
  have HV := Lib.hid hv
  have HB := Lib.hid hb
  have HX0 : RowKit.Hid (P.length ≤ 100000 ∧ ∀ i, i < P.length → (P.getD i []).length ≤ 100000) := ⟨hz, hx⟩
  clear hx hb hv
  have cS := Lib.hid (fun W => dig_leaf leaf (by omega) W)
  have h16 : (leafL leaf).length = 16 := sumL_length _
  obtain ⟨C, hC⟩ : ∃ C, climb 4096 (leafL leaf) i n P = C := ⟨_, rfl⟩
  rw [hC] at HB
  have HC0 : RowKit.Hid ((leafL leaf).length = 16 ∧ climb 4096 (leafL leaf) i n P = C) := ⟨h16, hC⟩
  generalize leafL leaf = dl at *
  generalize S leaf = sl at *
  have d1 : decide ((n : Int) < 1) = false := decide_eq_false (by omega)
  have d2 : decide ((4096 : Int) < (n : Int)) = false := decide_eq_false (by omega)
  have d3 : decide ((i : Int) < 0) = false := decide_eq_false (by omega)
  have d4 : decide ((n : Int) ≤ (i : Int)) = false := decide_eq_false (by omega)
  clear hC h16
  go_enter Tryd.func23, Tryd.ntmps23
  go_wp2_with fail
  refine (cS.out _).mono ?_
  rintro e w1 ⟨rfl, b1⟩
  go_wp2
  clear d1 d2 d3 d4
  go_loopw [2, 3, 4, 11] (fun ii nn pp dd wr => ∃ (j q : Nat) (d : List UInt8) (M : List (List UInt8)), ii = .int .i64 (j : Int) ∧ nn = .int .i64 (q : Int) ∧ dd = .string (S d) ∧ RowKit.Hid (BL pp M w) ∧ 1 ≤ q ∧ q ≤ 4096 ∧ j < q ∧ RowKit.Hid (M.length ≤ 100000 ∧ ∀ i, i < M.length → (M.getD i []).length ≤ 100000) ∧ RowKit.Hid (d.length = 16 ∧ climb 4096 d j q M = C) ∧ Below w.heap.size w wr) (fun _ nn _ _ _ => (intOf nn).toNat)
  case atStart => exact ⟨i, n, dl, P, rfl, rfl, rfl, HV, hn1, hn, hi, HX0, HC0, b1⟩
  case round =>
    obtain ⟨j, q, d, M, rfl, rfl, rfl, HM, hq1, hq2, hj, HX, HK, hbw⟩ := hrel
    clear HC0 b1 HX0 HV
    have Hbw := Lib.hid hbw
    have hbs := hbw.size
    by_cases hgt : 1 < q
    · have hst := climb_beside 4096 d j q M hgt (by omega) hj
      rw [HK.out.2] at hst
      have HSt := Lib.hid hst
      have hd16 := HK.out.1
      clear hst HK
      have c2 := Lib.hid (fun W => digNeighbour_any j (by omega) W)
      have c3 := Lib.hid (fun W => digHalf_any q (by omega) W)
      have t1 : decide ((1 : Int) < (q : Int)) = true := by simp only [decide_eq_true_eq]; omega
      have hj1 : Int.tdiv (j : Int) 2 = ((j / 2 : Nat) : Int) := by rw [Int.tdiv_eq_ediv_of_nonneg (by omega)]; omega
      have hj2 : (j : Int) / 2 = ((j / 2 : Nat) : Int) := by omega
      have hjq : j / 2 < (q + 1) / 2 := by omega
      have hqs : (q + 1) / 2 < q := by omega
      have hqp : 1 ≤ (q + 1) / 2 := by omega
      generalize besideN j = z at *
      by_cases hneed : z < q
      · rw [if_pos hneed] at HSt
        have t2 : decide ((q : Int) ≤ (z : Int)) = false := decide_eq_false (by omega)
        have t4 : ¬ ((q : Int) ≤ (z : Int)) := by omega
        have t5 : ¬ (q ≤ z) := by omega
        by_cases hne : 0 < M.length
        · obtain ⟨g, o, cp, rfl, hcp, hmx, hg, hcell⟩ := BS.of HM.out hne
          have hc0 := (hbw.cell (p := ⟨g, o + 0, none⟩) hg).trans (hcell 0 hne)
          have HCell := Lib.hid hcell
          rw [Nat.add_zero] at hc0
          have hnn : M ≠ [] := fun h => by rw [h] at hne; cases hne
          have hpx := HX.out.2 0 hne
          have cB := Lib.hid (fun W => digBeside_any d (M.getD 0 []) (by omega) (by omega) j W)
          have HK2 : RowKit.Hid ((if j % 2 = 1 then joinL (M.getD 0 []) d else joinL d (M.getD 0 [])).length = 16 ∧ climb 4096 (if j % 2 = 1 then joinL (M.getD 0 []) d else joinL d (M.getD 0 [])) (j / 2) ((q + 1) / 2) (M.drop 1) = C) := by
            refine ⟨by split <;> exact sumL_length _, ?_⟩
            rw [HSt.out, if_neg hnn]
          have HX2 : RowKit.Hid ((M.drop 1).length ≤ 100000 ∧ ∀ i, i < (M.drop 1).length → ((M.drop 1).getD i []).length ≤ 100000) := by
            refine ⟨by rw [List.length_drop]; have := HX.out.1; omega, fun i hi => ?_⟩
            rw [List.length_drop] at hi
            have := HX.out.2 (i + 1) (by omega)
            simpa [List.getD_eq_getElem?_getD] using this
          obtain ⟨m, hm⟩ : ∃ m, M.length = m := ⟨_, rfl⟩
          have HML := Lib.hid hm
          have hm5 : m ≤ 100000 := by rw [← hm]; exact HX.out.1
          rw [hm] at hcp hne ⊢
          clear hneed hpx hbw hcell hnn HSt hm
          generalize (if j % 2 = 1 then joinL (M.getD 0 []) d else joinL d (M.getD 0 [])) = d2 at *
          generalize S (M.getD 0 []) = px at *
          generalize S d = ds at *
          generalize (q + 1) / 2 = q' at *
          generalize j / 2 = j' at *
          have t3 : ((m : Int) == 0) = false := by simp; omega
          have i1 : 0 < m := by omega
          have i2 : (0 : Int) < (m : Int) := by omega
          have i3 : 1 ≤ m := by omega
          have i4 : (1 : Int) ≤ (m : Int) := by omega
          have hB := (BS.drop 1 (by omega) HML.out hcp hmx hg (fun i hi => HCell.out i (by rw [HML.out]; exact hi))).bl
          by_cases hc1 : cp = 1
          · rw [if_pos hc1] at hB
            have HBL := Lib.hid hB
            clear hB
            obtain rfl : m = 1 := by omega
            subst hc1
            go_wp2_with fail
            refine (c2.out _).mono ?_
            rintro e w2 ⟨rfl, hw2⟩
            rw [hw2]
            clear hw2
            go_wp2_with fail
            refine (cB.out _).mono ?_
            rintro e w3 ⟨rfl, b2⟩
            have hb2 := Hbw.out.trans (b2.mono hbs)
            clear b2
            go_wp2_with fail
            refine (c3.out _).mono ?_
            rintro e w4 ⟨rfl, hw4⟩
            rw [hw4]
            clear hw4
            go_wp2
            go_roundw
            case rel =>
              refine ⟨j', q', d2, M.drop 1, by go_num, by go_num, rfl, ?_, hqp, by omega, hjq, HX2, HK2, hb2⟩
              exact HBL.out
            case measure => simp [intOf]; omega
          · rw [if_neg hc1] at hB
            have HBL := Lib.hid hB
            clear hB
            go_wp2_with fail
            refine (c2.out _).mono ?_
            rintro e w2 ⟨rfl, hw2⟩
            rw [hw2]
            clear hw2
            go_wp2_with fail
            refine (cB.out _).mono ?_
            rintro e w3 ⟨rfl, b2⟩
            have hb2 := Hbw.out.trans (b2.mono hbs)
            clear b2
            go_wp2_with fail
            refine (c3.out _).mono ?_
            rintro e w4 ⟨rfl, hw4⟩
            rw [hw4]
            clear hw4
            go_wp2
            go_roundw
            case rel =>
              refine ⟨j', q', d2, M.drop 1, by go_num, by go_num, rfl, ?_, hqp, by omega, hjq, HX2, HK2, hb2⟩
              exact HBL.out
            case measure => simp [intOf]; omega
        · have hnil : M = [] := List.eq_nil_of_length_eq_zero (by omega)
          rw [if_pos hnil] at HSt
          obtain rfl : b = false := by rw [← HB.out, HSt.out]; rfl
          obtain ⟨a2, cp, rfl, hcp, _⟩ := HM.out.length
          rw [hnil]
          clear hneed hbw hne HSt hnil
          go_wp2_with fail
          refine (c2.out _).mono ?_
          rintro e w2 ⟨rfl, hw2⟩
          rw [hw2]
          clear hw2
          go_wp2
          go_ret
          exact ⟨rfl, Hbw.out⟩
      · rw [if_neg hneed] at HSt
        have t2 : decide ((q : Int) ≤ (z : Int)) = true := decide_eq_true (by omega)
        have t6 : q ≤ z := by omega
        have HK2 : RowKit.Hid (d.length = 16 ∧ climb 4096 d (j / 2) ((q + 1) / 2) M = C) := ⟨hd16, HSt.out.symm⟩
        clear hneed hbw HSt
        generalize (q + 1) / 2 = q' at *
        generalize j / 2 = j' at *
        obtain ⟨ds, hds⟩ : ∃ ds, S d = ds := ⟨_, rfl⟩
        have HDS := Lib.hid hds
        rw [hds]
        clear hds
        go_wp2_with fail
        refine (c2.out _).mono ?_
        rintro e w2 ⟨rfl, hw2⟩
        rw [hw2]
        clear hw2
        go_wp2_with fail
        refine (c3.out _).mono ?_
        rintro e w4 ⟨rfl, hw4⟩
        rw [hw4]
        clear hw4
        go_wp2
        go_roundw
        case rel => exact ⟨j', q', d, M, by go_num, by go_num, by rw [HDS.out], HM, hqp, by omega, hjq, HX, HK2, Hbw.out⟩
        case measure => simp [intOf]; omega
    · have hon := climb_one 4096 d j q M (by omega)
      rw [HK.out.2] at hon
      have hq := S_eq d root
      have t1 : decide ((1 : Int) < (q : Int)) = false := by simp only [decide_eq_false_iff_not]; omega
      obtain ⟨a2, cp, rfl, hcp, _⟩ := HM.out.length
      by_cases hne : M = []
      · rw [if_pos hne] at hon
        have hb2 : decide (d = root) = b := by
          rw [← HB.out, hon]
          simp
        rw [hb2] at hq
        rw [hne]
        clear hon HK hbw hb2 hne
        generalize S d = ds at *
        generalize S root = sr at *
        go_wp2
        go_ret
        exact ⟨rfl, Hbw.out⟩
      · rw [if_neg hne] at hon
        obtain rfl : b = false := by rw [← HB.out, hon]; rfl
        have hl : M.length ≠ 0 := fun h => hne (List.eq_nil_of_length_eq_zero h)
        generalize M.length = m at *
        have t2 : ((m : Int) == 0) = false := by simp; omega
        clear hon HK hbw hne hq
        go_wp2
        go_ret
        exact ⟨rfl, Hbw.out⟩

theorem digCheck_any (root leaf : List UInt8) (hlf : leaf.length ≤ 100000) (i n : Int) (P : List (List UInt8)) (hz : P.length ≤ 100000) (hx : ∀ i, i < P.length → (P.getD i []).length ≤ 100000) (v : Value) (w : World) (hv : BL v P w) (b : Bool) (hb : checkB root leaf i n P = b) :
    Calls Tryd.prog 23 #[.string (S root), .string (S leaf), .int .i64 i, .int .i64 n, v] w fun e w' => e = .returned (.bool b) ∧ Below w.heap.size w w' := by
  unfold checkB at hb
  by_cases h : 1 ≤ n ∧ n ≤ 4096 ∧ 0 ≤ i ∧ i < n
  · rw [decide_eq_true h, Bool.true_and] at hb
    obtain ⟨j, rfl⟩ : ∃ k : Nat, i = (k : Int) := ⟨i.toNat, by omega⟩
    obtain ⟨q, rfl⟩ : ∃ k : Nat, n = (k : Int) := ⟨n.toNat, by omega⟩
    exact digCheck_in root leaf hlf j q (by omega) (by omega) (by omega) P hz hx v w hv b hb
  · rw [decide_eq_false h, Bool.false_and] at hb
    subst hb
    refine (digCheck_bad (S root) (S leaf) i n h v w).mono fun e w' hh => ?_
    obtain ⟨rfl, rfl⟩ := hh
    exact ⟨rfl, Below.refl _ _⟩
end Go.Proofs.YtdaoccmhehekaaaDoor
