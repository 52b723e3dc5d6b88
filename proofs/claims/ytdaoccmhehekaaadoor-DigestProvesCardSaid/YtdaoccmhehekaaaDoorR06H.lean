/- libraryref06: Check. -/
import Derived.Test.YtdaoccmhehekaaaDoorR06G
namespace Go.Proofs.YtdaoccmhehekaaaDoor
open Go.RowKit Go.PlainAid

theorem climb_step (f : Nat) (d : List UInt8) (i n : Nat) (p : List (List UInt8)) (h : 1 < n) (hf : n ≤ f + 1) : climb f d i n p =
    if i % 2 = 1 then (if p = [] then none else climb f (joinL (p.headD []) d) (i / 2) ((n + 1) / 2) p.tail)
    else if i + 1 < n then (if p = [] then none else climb f (joinL d (p.headD [])) (i / 2) ((n + 1) / 2) p.tail)
    else climb f d (i / 2) ((n + 1) / 2) p := by
  have e := climb_more f (f + 1) d i n p hf (by omega)
  rw [e, climb, if_neg (by omega)]
theorem climb_one (f : Nat) (d : List UInt8) (i n : Nat) (p : List (List UInt8)) (h : n ≤ 1) : climb f d i n p = if p = [] then some d else none := by
  cases f with
  | zero => rfl
  | succ f => rw [climb, if_pos h]
theorem drop_nil_iff (P : List (List UInt8)) (k : Nat) : P.drop k = [] ↔ P.length ≤ k := List.drop_eq_nil_iff
theorem drop_head (P : List (List UInt8)) (k : Nat) : (P.drop k).headD [] = P.getD k [] := by
  rw [List.headD_eq_head?_getD, List.head?_drop, List.getD_eq_getElem?_getD]
theorem drop_tail (P : List (List UInt8)) (k : Nat) : (P.drop k).tail = P.drop (k + 1) := by
  rw [List.tail_drop]

set_option maxHeartbeats 4000000 in
theorem refCheck_bad (root leaf : ByteArray) (i n : Int) (h : ¬ (1 ≤ n ∧ n ≤ 4096 ∧ 0 ≤ i ∧ i < n)) (v : Value) (w : World) :
    Calls Tryd.prog 24 #[.string root, .string leaf, .int .i64 i, .int .i64 n, v] w fun e w' => e = .returned (.bool false) ∧ w' = w := by
  by_cases h1 : n < 1
  · have d1 : decide (n < 1) = true := decide_eq_true h1
    clear h
    go_enter Tryd.func24, Tryd.ntmps24
    go_wp2
    go_ret
    exact ⟨rfl, rfl⟩
  have d1 : decide (n < 1) = false := decide_eq_false h1
  by_cases h2 : 4096 < n
  · have d2 : decide (4096 < n) = true := decide_eq_true h2
    clear h
    go_enter Tryd.func24, Tryd.ntmps24
    go_wp2
    go_ret
    exact ⟨rfl, rfl⟩
  have d2 : decide (4096 < n) = false := decide_eq_false h2
  by_cases h3 : i < 0
  · have d3 : decide (i < 0) = true := decide_eq_true h3
    clear h
    go_enter Tryd.func24, Tryd.ntmps24
    go_wp2
    go_ret
    exact ⟨rfl, rfl⟩
  have d3 : decide (i < 0) = false := decide_eq_false h3
  have d4 : decide (n ≤ i) = true := decide_eq_true (by omega)
  clear h
  go_enter Tryd.func24, Tryd.ntmps24
  go_wp2
  go_ret
  exact ⟨rfl, rfl⟩

set_option maxHeartbeats 16000000 in
theorem refCheck_in (root leaf : List UInt8) (hlf : leaf.length ≤ 100000) (i n : Nat) (hn1 : 1 ≤ n) (hn : n ≤ 4096) (hi : i < n) (P : List (List UInt8)) (hz : P.length ≤ 100000) (hx : ∀ i, i < P.length → (P.getD i []).length ≤ 100000) (v : Value) (w : World) (hv : BL v P w) (b : Bool) (hb : decide (climb 4096 (leafL leaf) i n P = some root) = b) :
    Calls Tryd.prog 24 #[.string (S root), .string (S leaf), .int .i64 (i : Int), .int .i64 (n : Int), v] w fun e w' => e = .returned (.bool b) ∧ Below w.heap.size w w' := by
  obtain ⟨a, cap, rfl, hcap, hmax, _, hcell⟩ := hv
  have HCell := Lib.hid hcell
  have HX := Lib.hid hx
  have HB := Lib.hid hb
  obtain ⟨m, hM⟩ : ∃ m, P.length = m := ⟨_, rfl⟩
  rw [hM] at hcap hz ⊢
  have HM := Lib.hid hM
  clear hM hcell hx hb
  have cS := Lib.hid (fun W => refSum_any (48 :: leaf) (by rw [List.length_cons]; omega) W)
  have hE : (⟨#[48]⟩ : ByteArray) ++ S leaf = S (48 :: leaf) := by rw [show (⟨#[48]⟩ : ByteArray) = S [48] from rfl, S_append]; rfl
  have z1 : (S leaf).size ≤ 100000 := by rw [S_size]; exact hlf
  change RowKit.Hid (∀ W : World, Calls Tryd.prog 13 #[.string (S (48 :: leaf))] W fun e w' => e = .returned (.string (S (leafL leaf))) ∧ Below W.heap.size W w') at cS
  have h16 : (leafL leaf).length = 16 := sumL_length _
  obtain ⟨C, hC⟩ : ∃ C, climb 4096 (leafL leaf) i n P = C := ⟨_, rfl⟩
  rw [hC] at HB
  have HC0 : RowKit.Hid ((leafL leaf).length = 16 ∧ climb 4096 (leafL leaf) i n (P.drop 0) = C) := ⟨h16, hC⟩
  generalize leafL leaf = dl at *
  generalize S (48 :: leaf) = x1 at *
  generalize S leaf = sl at *
  have d1 : decide ((n : Int) < 1) = false := decide_eq_false (by omega)
  have d2 : decide ((4096 : Int) < (n : Int)) = false := decide_eq_false (by omega)
  have d3 : decide ((i : Int) < 0) = false := decide_eq_false (by omega)
  have d4 : decide ((n : Int) ≤ (i : Int)) = false := decide_eq_false (by omega)
  clear hC h16
  go_enter Tryd.func24, Tryd.ntmps24
  go_wp2_with fail
  refine (cS.out _).mono ?_
  rintro e w1 ⟨rfl, b1⟩
  go_wp2
  clear d1 d2 d3 d4
  go_loopw [2, 3, 11, 12] (fun ii nn dd kk wr => ∃ (j q k : Nat) (d : List UInt8), ii = .int .i64 (j : Int) ∧ nn = .int .i64 (q : Int) ∧ dd = .string (S d) ∧ kk = .int .i64 (k : Int) ∧ 1 ≤ q ∧ q ≤ 4096 ∧ j < q ∧ k ≤ m ∧ RowKit.Hid (d.length = 16 ∧ climb 4096 d j q (P.drop k) = C) ∧ Below w.heap.size w wr) (fun _ nn _ _ _ => (intOf nn).toNat)
  case atStart => exact ⟨i, n, 0, dl, rfl, rfl, rfl, rfl, hn1, hn, hi, Nat.zero_le _, HC0, b1⟩
  case round =>
    obtain ⟨j, q, k, d, rfl, rfl, rfl, rfl, hq1, hq2, hj, hk, HK, hbw⟩ := hrel
    clear HC0 b1
    have Hbw := Lib.hid hbw
    have hbs := hbw.size
    by_cases hgt : 1 < q
    · have hst := climb_step 4096 d j q (P.drop k) hgt (by omega)
      rw [HK.out.2] at hst
      have HSt := Lib.hid hst
      have hd16 := HK.out.1
      clear hst HK
      have t1 : decide ((1 : Int) < (q : Int)) = true := by simp only [decide_eq_true_eq]; omega
      have hj1 : Int.tdiv (j : Int) 2 = ((j / 2 : Nat) : Int) := by rw [Int.tdiv_eq_ediv_of_nonneg (by omega)]; omega
      have hj2 : (j : Int) / 2 = ((j / 2 : Nat) : Int) := by omega
      have hq3 : Int.tdiv ((q : Int) + 1) 2 = (((q + 1) / 2 : Nat) : Int) := by rw [Int.tdiv_eq_ediv_of_nonneg (by omega)]; omega
      have hq4 : ((q : Int) + 1) / 2 = (((q + 1) / 2 : Nat) : Int) := by omega
      have r1 : Int.tmod (j : Int) 2 = ((j % 2 : Nat) : Int) := by rw [Int.tmod_eq_emod_of_nonneg (by omega)]; omega
      have r2 : (j : Int) % 2 = ((j % 2 : Nat) : Int) := by omega
      have hjq : j / 2 < (q + 1) / 2 := by omega
      have hqs : (q + 1) / 2 < q := by omega
      have hqp : 1 ≤ (q + 1) / 2 := by omega
      by_cases hneed : j % 2 = 1 ∨ j + 1 < q
      · by_cases hkm : k < m
        · obtain ⟨g, o, rfl, hg, hc0⟩ := HCell.out k (by rw [HM.out]; exact hkm)
          have hc0 : wr.cell? ⟨g, o + k, none⟩ = some (.string (S (P.getD k []))) := (hbw.cell (p := ⟨g, o + k, none⟩) hg).trans hc0
          have hpx := HX.out k (by rw [HM.out]; exact hkm)
          have hne : P.drop k ≠ [] := fun h => by rw [drop_nil_iff, HM.out] at h; omega
          have t3 : decide ((m : Int) ≤ (k : Int)) = false := decide_eq_false (by omega)
          have i1 : (0 : Int) ≤ (k : Int) := by omega
          have i2 : (k : Int) < (m : Int) := by omega
          by_cases hodd : j % 2 = 1
          · have cJ := Lib.hid (fun W => refJoin_any (P.getD k []) d hpx (by omega) W)
            have HK2 : RowKit.Hid ((joinL (P.getD k []) d).length = 16 ∧ climb 4096 (joinL (P.getD k []) d) (j / 2) ((q + 1) / 2) (P.drop (k + 1)) = C) := by
              refine ⟨sumL_length _, ?_⟩
              rw [HSt.out, if_pos hodd, if_neg hne, drop_head, drop_tail]
            rw [hodd] at r1 r2
            clear hneed hodd hne hpx hbw
            generalize joinL (P.getD k []) d = d2 at *
            generalize S (P.getD k []) = px at *
            generalize S d = ds at *
            generalize (q + 1) / 2 = q' at *
            generalize j / 2 = j' at *
            go_wp2_with fail
            refine (cJ.out _).mono ?_
            rintro e w2 ⟨rfl, b2⟩
            have hb2 := Hbw.out.trans (b2.mono hbs)
            clear b2
            go_wp2
            go_roundw
            case rel => exact ⟨j', q', k + 1, d2, by go_num, by go_num, rfl, by go_num, hqp, by omega, hjq, by omega, HK2, hb2⟩
            case measure => simp [intOf]; omega
          · have hnx : j + 1 < q := by omega
            have cJ := Lib.hid (fun W => refJoin_any d (P.getD k []) (by omega) hpx W)
            have HK2 : RowKit.Hid ((joinL d (P.getD k [])).length = 16 ∧ climb 4096 (joinL d (P.getD k [])) (j / 2) ((q + 1) / 2) (P.drop (k + 1)) = C) := by
              refine ⟨sumL_length _, ?_⟩
              rw [HSt.out, if_neg hodd, if_pos hnx, if_neg hne, drop_head, drop_tail]
            have t2 : (((j % 2 : Nat) : Int) == 1) = false := by simp; omega
            have t4 : decide ((j : Int) + 1 < (q : Int)) = true := by simp only [decide_eq_true_eq]; omega
            clear hneed hodd hne hpx hbw hnx
            generalize joinL d (P.getD k []) = d2 at *
            generalize S (P.getD k []) = px at *
            generalize S d = ds at *
            generalize (q + 1) / 2 = q' at *
            generalize j / 2 = j' at *
            generalize j % 2 = od at *
            go_wp2_with fail
            refine (cJ.out _).mono ?_
            rintro e w2 ⟨rfl, b2⟩
            have hb2 := Hbw.out.trans (b2.mono hbs)
            clear b2
            go_wp2
            go_roundw
            case rel => exact ⟨j', q', k + 1, d2, by go_num, by go_num, rfl, by go_num, hqp, by omega, hjq, by omega, HK2, hb2⟩
            case measure => simp [intOf]; omega
        · have hnil : P.drop k = [] := by rw [drop_nil_iff, HM.out]; omega
          have t3 : decide ((m : Int) ≤ (k : Int)) = true := decide_eq_true (by omega)
          have hCn : C = none := by
            rw [HSt.out]
            by_cases hodd : j % 2 = 1
            · rw [if_pos hodd, if_pos hnil]
            · rw [if_neg hodd, if_pos (by omega), if_pos hnil]
          obtain rfl : b = false := by rw [← HB.out, hCn]; rfl
          clear hCn hnil hbw
          by_cases hodd : j % 2 = 1
          · rw [hodd] at r1 r2
            clear hneed
            go_wp2
            go_ret
            exact ⟨rfl, Hbw.out⟩
          · have t2 : (((j % 2 : Nat) : Int) == 1) = false := by simp; omega
            have t4 : decide ((j : Int) + 1 < (q : Int)) = true := by simp only [decide_eq_true_eq]; omega
            clear hneed hodd
            generalize j % 2 = od at *
            go_wp2
            go_ret
            exact ⟨rfl, Hbw.out⟩
      · have t2 : (((j % 2 : Nat) : Int) == 1) = false := by simp; omega
        have t4 : decide ((j : Int) + 1 < (q : Int)) = false := by simp only [decide_eq_false_iff_not]; omega
        have HK2 : RowKit.Hid (d.length = 16 ∧ climb 4096 d (j / 2) ((q + 1) / 2) (P.drop k) = C) := by
          refine ⟨hd16, ?_⟩
          rw [HSt.out, if_neg (fun h => hneed (.inl h)), if_neg (fun h => hneed (.inr h))]
        clear hneed hbw
        generalize (q + 1) / 2 = q' at *
        generalize j / 2 = j' at *
        generalize j % 2 = od at *
        go_wp2
        go_roundw
        case rel => exact ⟨j', q', k, d, by go_num, by go_num, rfl, by go_num, hqp, by omega, hjq, hk, HK2, Hbw.out⟩
        case measure => simp [intOf]; omega
    · have hon := climb_one 4096 d j q (P.drop k) (by omega)
      rw [HK.out.2] at hon
      have hq := S_eq d root
      have t1 : decide ((1 : Int) < (q : Int)) = false := by simp only [decide_eq_false_iff_not]; omega
      by_cases hkm : k = m
      · have hnil : P.drop k = [] := by rw [drop_nil_iff, HM.out]; omega
        rw [if_pos hnil] at hon
        have hb2 : decide (d = root) = b := by
          rw [← HB.out, hon]
          simp
        rw [hb2] at hq
        subst hkm
        clear hon HK hbw hb2 hnil
        generalize S d = ds at *
        generalize S root = sr at *
        go_wp2
        go_ret
        exact ⟨rfl, Hbw.out⟩
      · have hnn : P.drop k ≠ [] := fun h => by rw [drop_nil_iff, HM.out] at h; omega
        rw [if_neg hnn] at hon
        obtain rfl : b = false := by rw [← HB.out, hon]; rfl
        have t2 : ((k : Int) == (m : Int)) = false := by simp; omega
        clear hon HK hbw hnn hq
        go_wp2
        go_ret
        exact ⟨rfl, Hbw.out⟩

theorem refCheck_any (root leaf : List UInt8) (hlf : leaf.length ≤ 100000) (i n : Int) (P : List (List UInt8)) (hz : P.length ≤ 100000) (hx : ∀ i, i < P.length → (P.getD i []).length ≤ 100000) (v : Value) (w : World) (hv : BL v P w) (b : Bool) (hb : checkB root leaf i n P = b) :
    Calls Tryd.prog 24 #[.string (S root), .string (S leaf), .int .i64 i, .int .i64 n, v] w fun e w' => e = .returned (.bool b) ∧ Below w.heap.size w w' := by
  unfold checkB at hb
  by_cases h : 1 ≤ n ∧ n ≤ 4096 ∧ 0 ≤ i ∧ i < n
  · rw [decide_eq_true h, Bool.true_and] at hb
    obtain ⟨j, rfl⟩ : ∃ k : Nat, i = (k : Int) := ⟨i.toNat, by omega⟩
    obtain ⟨q, rfl⟩ : ∃ k : Nat, n = (k : Int) := ⟨n.toNat, by omega⟩
    exact refCheck_in root leaf hlf j q (by omega) (by omega) (by omega) P hz hx v w hv b hb
  · rw [decide_eq_false h, Bool.false_and] at hb
    subst hb
    refine (refCheck_bad (S root) (S leaf) i n h v w).mono fun e w' hh => ?_
    obtain ⟨rfl, rfl⟩ := hh
    exact ⟨rfl, Below.refl _ _⟩
end Go.Proofs.YtdaoccmhehekaaaDoor
