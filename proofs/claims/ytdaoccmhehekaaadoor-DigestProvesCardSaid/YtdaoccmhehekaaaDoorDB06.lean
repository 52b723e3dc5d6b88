/- Package digest: digest (of any parts), Sum, Join, beside. -/
import Derived.Test.YtdaoccmhehekaaaDoorDA06
namespace Go.Proofs.YtdaoccmhehekaaaDoor
open Go.RowKit Go.PlainAid

/-- All the texts, one after the other. -/
def catL (P : List (List UInt8)) : List UInt8 := P.flatten
theorem catL_take (P : List (List UInt8)) (k : Nat) (h : k < P.length) : catL (P.take (k + 1)) = catL (P.take k) ++ P.getD k [] := by
  unfold catL
  rw [take_at P k h, List.flatten_append]
  simp

set_option maxHeartbeats 8000000 in
theorem digDigest_any (P : List (List UInt8)) (hz : P.length ≤ 100000) (hx : ∀ i, i < P.length → (P.getD i []).length ≤ 1000000) (v : Value) (w : World) (hv : BL v P w) :
    Calls Tryd.prog 25 #[v] w fun e w' => e = .returned (.string (S (sumL (catL P)))) ∧ Below w.heap.size w w' := by
  obtain ⟨a, cap, rfl, hcap, hmax, _, hcell⟩ := hv
  have HCell := Lib.hid hcell
  have HX := Lib.hid hx
  obtain ⟨n, hN⟩ : ∃ n, P.length = n := ⟨_, rfl⟩
  rw [hN] at hcap hz ⊢
  have HN := Lib.hid hN
  clear hN hcell hx
  have HRes : RowKit.Hid (S (sumL (catL P)) = S (hexU (fin (hfold (catL P))) 16)) := rfl
  generalize S (sumL (catL P)) = res at *
  go_enter Tryd.func25, Tryd.ntmps25
  go_wp2
  go_loopw [3, 9] (fun h i wr => ∃ k : Nat, k ≤ n ∧ i = .int .i64 (k : Int) ∧ h = .int .u64 ((hfold (catL (P.take k)) : Nat) : Int) ∧ wr = w) (fun _ i _ => n - (intOf i).toNat)
  case atStart => exact ⟨0, Nat.zero_le _, rfl, rfl, rfl⟩
  case round =>
    obtain ⟨k, hk, rfl, rfl, rfl⟩ := hrel
    by_cases hkn : k < n
    · obtain ⟨g, o, rfl, hg, hc⟩ := HCell.out k (by rw [HN.out]; exact hkn)
      have hlx := HX.out k (by rw [HN.out]; exact hkn)
      have HA := Lib.hid (catL_take P k (by rw [HN.out]; exact hkn))
      have i1 : (0 : Int) ≤ (k : Int) := by omega
      have i2 : (k : Int) < (n : Int) := by omega
      generalize catL (P.take k) = pre at HA ⊢
      have HBS := Lib.hid (fun i => bt_S (P.getD k []) i)
      have hsz : (S (P.getD k [])).size = (P.getD k []).length := S_size _
      change wr.cell? ⟨g, o + k, none⟩ = some (.string (S (P.getD k []))) at hc
      generalize P.getD k [] = x at HA HBS hsz hlx hc
      obtain ⟨m, hM⟩ : ∃ m, x.length = m := ⟨_, rfl⟩
      rw [hM] at hsz hlx
      have HM := Lib.hid hM
      clear hM
      have hbt := get_bt (S x)
      generalize S x = sx at *
      have H0 : RowKit.Hid (hfold pre = hfold (pre ++ x.take 0)) := by unfold RowKit.Hid; simp
      go_wp2
      go_loopw [3, 15] (fun h i w2 => ∃ j : Nat, j ≤ m ∧ i = .int .i64 (j : Int) ∧ h = .int .u64 ((hfold (pre ++ x.take j) : Nat) : Int) ∧ w2 = wr) (fun _ i _ => m - (intOf i).toNat)
      case atStart => exact ⟨0, Nat.zero_le _, rfl, by rw [← H0.out], rfl⟩
      case round =>
        obtain ⟨j, hj, rfl, rfl, rfl⟩ := hrel
        have hlt := hfold_lt (pre ++ x.take j)
        by_cases hjm : j < m
        · have hv := HBS.out j
          have hji : (j : Int) < (m : Int) := by omega
          have HS : RowKit.Hid (hfold (pre ++ x.take (j + 1)) = hstep (hfold (pre ++ x.take j)) (x.getD j 0)) := by
            unfold RowKit.Hid
            rw [take_snoc x j (by rw [HM.out]; exact hjm), ← List.append_assoc, hfold_snoc]
          have hb : (x.getD j 0).toNat < 256 := UInt8.toNat_lt _
          unfold hstep at HS
          generalize hfold (pre ++ x.take j) = h at *
          generalize (x.getD j 0).toNat = b at *
          have x1 : bits .xor .u64 (h : Int) (b : Int) = ((h ^^^ b : Nat) : Int) := bits_xor_u64_nat h b hlt (by omega)
          go_wp2
          go_roundw
          case rel => exact ⟨j + 1, by omega, by go_num, by rw [HS.out]; go_num, trivial⟩
          case measure => simp [intOf]; omega
        · obtain rfl : j = m := by omega
          have HF : RowKit.Hid (hfold (catL (P.take (k + 1))) = hfold (pre ++ x.take j)) := by
            unfold RowKit.Hid
            rw [HA.out, ← HM.out, List.take_length]
          generalize hfold (pre ++ x.take j) = h at *
          go_wp2
          go_roundw
          case rel => exact ⟨k + 1, by omega, by go_num, by rw [HF.out], trivial⟩
          case measure => simp [intOf]; omega
    · obtain rfl : k = n := by omega
      have hT : P.take k = P := by rw [← HN.out, List.take_length]
      rw [hT]
      have hlt := hfold_lt (catL P)
      have c1 := Lib.hid (fun W => digMixed_any (hfold (catL P)) hlt W)
      have hlt2 := fin_lt (hfold (catL P))
      generalize hfold (catL P) = h at *
      have c2 := Lib.hid (fun W => digWritten_any (fin h) hlt2 W)
      rw [← HRes.out] at c2
      clear HRes
      generalize fin h = h2 at *
      go_wp2_with fail
      refine (c1.out _).mono ?_
      rintro e w1 ⟨rfl, rfl⟩
      go_wp2_with fail
      refine (c2.out _).mono ?_
      rintro e w2 ⟨rfl, b2⟩
      have Hb2 := Lib.hid b2
      clear b2
      go_wp2
      go_ret
      exact ⟨rfl, Hb2.out⟩

/-- A slice of texts that has just been laid. -/
theorem BL.built (w : World) (P : List (List UInt8)) (h : P.length ≤ maxLen) : BL (.slice (some ⟨w.heap.size, 0, none⟩) P.length P.length) P (w.alloc (.cells (P.map strB).toArray 9)) := by
  refine ⟨_, P.length, rfl, Nat.le_refl _, h, (fun h => by cases h), fun i hi => ⟨w.heap.size, 0, rfl, by simp, ?_⟩⟩
  have h2 : (P.map strB)[i]? = some (strB (P.getD i [])) := by
    rw [List.getElem?_map, List.getD_eq_getElem?_getD, List.getElem?_eq_getElem hi]
    rfl
  rw [Nat.zero_add]
  unfold World.cell?
  rw [heap_alloc_new]
  simpa using h2
theorem dig_built (P : List (List UInt8)) (hz : P.length ≤ 3) (hx : ∀ x ∈ P, x.length ≤ 1000000) (W : World) :
    Calls Tryd.prog 25 #[.slice (some ⟨W.heap.size, 0, none⟩) P.length P.length] (W.alloc (.cells (P.map strB).toArray 9)) fun e w' => e = .returned (.string (S (sumL (catL P)))) ∧ Below W.heap.size W w' := by
  refine (digDigest_any P (by omega) (fun i hi => ?_) _ _ (BL.built W P (by unfold maxLen; omega))).mono fun e w' hh => ?_
  · rw [List.getD_eq_getElem?_getD, List.getElem?_eq_getElem hi]
    exact hx _ (List.getElem_mem hi)
  · exact ⟨hh.1, ((Below.refl W.heap.size W).alloc (Nat.le_refl _) _).trans (hh.2.mono (by simp))⟩
theorem dig_one (a : List UInt8) (ha : a.length ≤ 1000000) (W : World) :
    Calls Tryd.prog 25 #[.slice (some ⟨W.heap.size, 0, none⟩) 1 1] (W.alloc (.cells #[.string (S a)] 9)) fun e w' => e = .returned (.string (S (sumL a))) ∧ Below W.heap.size W w' := by
  have h := dig_built [a] (by simp) (by simpa using ha) W
  rw [show catL [a] = a by simp [catL]] at h
  exact h
theorem dig_leaf (a : List UInt8) (ha : a.length ≤ 1000000) (W : World) :
    Calls Tryd.prog 25 #[.slice (some ⟨W.heap.size, 0, none⟩) 2 2] (W.alloc (.cells #[.string ⟨#[48]⟩, .string (S a)] 9)) fun e w' => e = .returned (.string (S (leafL a))) ∧ Below W.heap.size W w' := by
  have h := dig_built [[48], a] (by simp) (by simpa using ha) W
  rw [show catL [[48], a] = 48 :: a by simp [catL]] at h
  exact h
theorem dig_pair (a b : List UInt8) (ha : a.length ≤ 1000000) (hb : b.length ≤ 1000000) (W : World) :
    Calls Tryd.prog 25 #[.slice (some ⟨W.heap.size, 0, none⟩) 3 3] (W.alloc (.cells #[.string ⟨#[49]⟩, .string (S a), .string (S b)] 9)) fun e w' => e = .returned (.string (S (joinL a b))) ∧ Below W.heap.size W w' := by
  have h := dig_built [[49], a, b] (by simp) (by simpa using ⟨ha, hb⟩) W
  rw [show catL [[49], a, b] = 49 :: (a ++ b) by simp [catL]] at h
  exact h

theorem digSum_any (l : List UInt8) (hz : l.length ≤ 1000000) (w : World) :
    Calls Tryd.prog 11 #[.string (S l)] w fun e w' => e = .returned (.string (S (sumL l))) ∧ Below w.heap.size w w' := by
  have c := Lib.hid (fun W => dig_one l hz W)
  generalize S (sumL l) = res at *
  generalize S l = s at *
  go_enter Tryd.func11, Tryd.ntmps11
  go_wp2_with fail
  refine (c.out _).mono ?_
  rintro e w1 ⟨rfl, b1⟩
  go_wp2
  go_ret
  exact ⟨rfl, b1⟩

theorem digJoin_any (a b : List UInt8) (ha : a.length ≤ 1000000) (hb : b.length ≤ 1000000) (w : World) :
    Calls Tryd.prog 12 #[.string (S a), .string (S b)] w fun e w' => e = .returned (.string (S (joinL a b))) ∧ Below w.heap.size w w' := by
  have c := Lib.hid (fun W => dig_pair a b ha hb W)
  generalize S (joinL a b) = res at *
  generalize S a = sa at *
  generalize S b = sb at *
  go_enter Tryd.func12, Tryd.ntmps12
  go_wp2_with fail
  refine (c.out _).mono ?_
  rintro e w1 ⟨rfl, b1⟩
  go_wp2
  go_ret
  exact ⟨rfl, b1⟩

theorem digBeside_any (d x : List UInt8) (hd : d.length ≤ 1000000) (hx : x.length ≤ 1000000) (i : Nat) (w : World) :
    Calls Tryd.prog 33 #[.string (S d), .int .i64 (i : Int), .string (S x)] w fun e w' => e = .returned (.string (S (if i % 2 = 1 then joinL x d else joinL d x))) ∧ Below w.heap.size w w' := by
  have r1 : Int.tmod (i : Int) 2 = ((i % 2 : Nat) : Int) := by rw [Int.tmod_eq_emod_of_nonneg (by omega)]; omega
  have r2 : (i : Int) % 2 = ((i % 2 : Nat) : Int) := by omega
  by_cases hodd : i % 2 = 1
  · rw [if_pos hodd]
    rw [hodd] at r1 r2
    have c := Lib.hid (fun W => digJoin_any x d hx hd W)
    clear hodd
    generalize S (joinL x d) = res at *
    generalize S x = sx at *
    generalize S d = sd at *
    go_enter Tryd.func33, Tryd.ntmps33
    go_wp2_with fail
    refine (c.out _).mono ?_
    rintro e w1 ⟨rfl, b1⟩
    go_wp2
    go_ret
    exact ⟨rfl, b1⟩
  · rw [if_neg hodd]
    have t2 : (((i % 2 : Nat) : Int) == 1) = false := by simp; omega
    have c := Lib.hid (fun W => digJoin_any d x hd hx W)
    clear hodd
    generalize i % 2 = od at *
    generalize S (joinL d x) = res at *
    generalize S x = sx at *
    generalize S d = sd at *
    go_enter Tryd.func33, Tryd.ntmps33
    go_wp2_with fail
    refine (c.out _).mono ?_
    rintro e w1 ⟨rfl, b1⟩
    go_wp2
    go_ret
    exact ⟨rfl, b1⟩
end Go.Proofs.YtdaoccmhehekaaaDoor
