/- Layer 4: the text of an amount is read back as it. -/
import Derived.Test.YtbemenflkebpnaaDoorR04U
namespace Go.Proofs.YtbemenflkebpnaaDoor
open Go.RowKit Go.PlainAid

theorem bt_S (l : List UInt8) (i : Nat) : bt (S l) i = ((l.getD i 0).toNat : Int) := by
  unfold bt
  by_cases h : i < (S l).size
  · rw [dif_pos h]
    have h' : i < l.length := by rwa [S_size] at h
    rw [List.getD_eq_getElem?_getD, List.getElem?_eq_getElem h']
    rfl
  · rw [dif_neg h]
    have h' : ¬ i < l.length := by rwa [S_size] at h
    rw [List.getD_eq_getElem?_getD, List.getElem?_eq_none (by omega)]
    rfl
theorem dgt_nat (c : Nat) (h : c ≤ 9) : (dgt c).toNat = 48 + c := by
  unfold dgt
  rw [UInt8.toNat_ofNat']
  omega
/-- The number that some digits say. -/
def numL (l : List UInt8) : Nat := l.foldl (fun a x => 10 * a + (x.toNat - 48)) 0
theorem numL_snoc (l : List UInt8) (x : UInt8) : numL (l ++ [x]) = 10 * numL l + (x.toNat - 48) := by simp [numL]
theorem numL_dec : ∀ m, numL (Lib.decDigits m) = m := by
  intro m
  induction m using Nat.strongRecOn with
  | ind m ih =>
    by_cases h : m < 10
    · rw [dec1 m h]
      show 10 * 0 + ((dgt m).toNat - 48) = m
      rw [dgt_nat m (by omega)]
      omega
    · rw [decS m h, numL_snoc, ih (m / 10) (by omega), dgt_nat _ (by omega)]
      omega
theorem dec_digit : ∀ m, ∀ x ∈ Lib.decDigits m, ∃ c, c ≤ 9 ∧ x = dgt c := by
  intro m
  induction m using Nat.strongRecOn with
  | ind m ih =>
    intro x hx
    by_cases h : m < 10
    · rw [dec1 m h] at hx
      exact ⟨m, by omega, by simpa using hx⟩
    · rw [decS m h, List.mem_append] at hx
      rcases hx with hx | hx
      · exact ih (m / 10) (by omega) x hx
      · exact ⟨m % 10, by omega, by simpa using hx⟩
theorem dec_head : ∀ m, 0 < m → ∃ c rest, Lib.decDigits m = dgt c :: rest ∧ 1 ≤ c ∧ c ≤ 9 := by
  intro m
  induction m using Nat.strongRecOn with
  | ind m ih =>
    intro h0
    by_cases h : m < 10
    · exact ⟨m, [], dec1 m h, h0, by omega⟩
    · obtain ⟨c, rest, e, h1, h2⟩ := ih (m / 10) (by omega) (by omega)
      exact ⟨c, rest ++ [dgt (m % 10)], by rw [decS m h, e]; rfl, h1, h2⟩
theorem valM_take (l : List UInt8) (K : Nat) (hK : K ≤ l.length) (hd : ∀ i, i < K → ∃ c, c ≤ 9 ∧ l.getD i 0 = dgt c) : ∀ k, k ≤ K → valM (S l) K k = numL (l.take k)
  | 0, _ => rfl
  | k + 1, h => by
    obtain ⟨c, hc, he⟩ := hd k (by omega)
    have hkl : k < l.length := by omega
    have he2 : l[k] = dgt c := by rw [← he, List.getD_eq_getElem?_getD, List.getElem?_eq_getElem hkl]; rfl
    rw [List.take_succ_eq_append_getElem hkl, numL_snoc, valM, if_neg (by omega), valM_take l K hK hd k (by omega), bt_S, he, he2, dgt_nat c hc]
    omega

theorem parM_fmt (n : Nat) (h : n ≤ 100000000) : parM (fmtM n) = ((n : Int), 0) := by
  obtain ⟨ds, hds⟩ : ∃ ds, Lib.decDigits (n / 100) = ds := ⟨_, rfl⟩
  obtain ⟨K, hK⟩ : ∃ K, ds.length = K := ⟨_, rfl⟩
  have hl : fmtL n = ds ++ 46 :: [dgt (n / 10 % 10), dgt (n % 10)] := by unfold fmtL; rw [hds]
  have hlen : (fmtL n).length = K + 3 := by rw [hl, List.length_append, hK]; rfl
  have hpos : 0 < K := by rw [← hK, ← hds]; exact dec_pos _
  have g0 : ∀ i, i < K → (fmtL n).getD i 0 = ds.getD i 0 := by
    intro i hi
    rw [hl, List.getD_eq_getElem?_getD, List.getElem?_append_left (by omega), ← List.getD_eq_getElem?_getD]
  have gK : ∀ j, (fmtL n).getD (K + j) 0 = (46 :: [dgt (n / 10 % 10), dgt (n % 10)] : List UInt8).getD j 0 := by
    intro j
    rw [hl, List.getD_eq_getElem?_getD, List.getElem?_append_right (by omega), hK, show K + j - K = j by omega, ← List.getD_eq_getElem?_getD]
  have hdig : ∀ i, i < K → ∃ c, c ≤ 9 ∧ (fmtL n).getD i 0 = dgt c := by
    intro i hi
    rw [g0 i hi, List.getD_eq_getElem?_getD, List.getElem?_eq_getElem (by omega)]
    exact dec_digit (n / 100) _ (by rw [hds]; exact List.getElem_mem _)
  have b0 : bt (fmtM n) K = 46 := by
    have := gK 0
    unfold fmtM
    rw [bt_S, show K = K + 0 by omega, this]
    rfl
  have b1 : bt (fmtM n) (K + 1) = ((48 + n / 10 % 10 : Nat) : Int) := by
    unfold fmtM
    rw [bt_S, gK 1]
    show ((dgt (n / 10 % 10)).toNat : Int) = _
    rw [dgt_nat _ (by omega)]
  have b2 : bt (fmtM n) (K + 2) = ((48 + n % 10 : Nat) : Int) := by
    unfold fmtM
    rw [bt_S, gK 2]
    show ((dgt (n % 10)).toNat : Int) = _
    rw [dgt_nat _ (by omega)]
  have hsz : (fmtM n).size = K + 3 := by unfold fmtM; rw [S_size, hlen]
  have hhead : headM (fmtM n) = true := by
    unfold headM
    rw [hsz, show K + 3 - 3 = K by omega, b0, decide_eq_true (show 4 ≤ K + 3 by omega)]
    have hz : (decide (4 < K + 3) && bt (fmtM n) 0 == 48) = false := by
      by_cases h2 : 4 < K + 3
      · have hm : 0 < n / 100 := by
          rcases Nat.eq_zero_or_pos (n / 100) with h3 | h3
          · rw [h3, dec1 0 (by decide)] at hds
            rw [← hds] at hK
            simp at hK
            omega
          · exact h3
        obtain ⟨c, rest, e, h3, h4⟩ := dec_head (n / 100) hm
        have h5 : bt (fmtM n) 0 = ((48 + c : Nat) : Int) := by
          unfold fmtM
          rw [bt_S, g0 0 (by omega), ← hds, e]
          show ((dgt c).toNat : Int) = _
          rw [dgt_nat c h4]
        rw [h5]
        have : (((48 + c : Nat) : Int) == 48) = false := by simp; omega
        rw [this, Bool.and_false]
      · rw [decide_eq_false h2, Bool.false_and]
    rw [hz]
    rfl
  have hall : (List.range (fmtM n).size).all (okAt (fmtM n) ((fmtM n).size - 3)) = true := by
    rw [all_size, hsz, show K + 3 - 3 = K by omega]
    intro i hi
    unfold okAt
    by_cases h1 : i = K
    · rw [show (i == K) = true by simpa using h1]; rfl
    · rw [show (i == K) = false by simpa using h1, Bool.false_or]
      have hb : 48 ≤ bt (fmtM n) i ∧ bt (fmtM n) i ≤ 57 := by
        by_cases h2 : i < K
        · obtain ⟨c, hc, he⟩ := hdig i h2
          unfold fmtM
          rw [bt_S, he, dgt_nat c hc]
          omega
        · by_cases h3 : i = K + 1
          · rw [h3, b1]; omega
          · rw [show i = K + 2 by omega, b2]; omega
      rw [decide_eq_true hb.1, decide_eq_true hb.2]
      rfl
  have hv0 : valM (fmtM n) K K = n / 100 := by
    unfold fmtM
    rw [valM_take (fmtL n) K (by omega) hdig K (Nat.le_refl _), hl, ← hK, List.take_left, ← hds, numL_dec]
  have hv : valM (fmtM n) K (K + 3) = n := by
    have e1 : valM (fmtM n) K (K + 1) = n / 100 := by rw [valM, if_pos rfl, hv0]
    have e2 : valM (fmtM n) K (K + 2) = 10 * (n / 100) + n / 10 % 10 := by
      rw [show K + 2 = (K + 1) + 1 from rfl, valM, if_neg (by omega), e1, b1]
      omega
    rw [show K + 3 = (K + 2) + 1 from rfl, valM, if_neg (by omega), e2, b2]
    omega
  unfold parM
  rw [if_pos ⟨hhead, hall⟩, hsz, show K + 3 - 3 = K by omega, hv, if_pos h]
theorem fmtM_size (n : Nat) (h : n ≤ 100000000) : (fmtM n).size ≤ 1000000 + 4 ∧ (fmtM n).size ≤ 1000000 := by
  have hb : (Lib.decDigits (n / 100)).length ≤ 8 := by
    have key : ∀ k m, m < 10 ^ (k + 1) → (Lib.decDigits m).length ≤ k + 1 := by
      intro k
      induction k with
      | zero => intro m hm; rw [dec1 m (by simpa using hm)]; exact Nat.le_refl _
      | succ k ih =>
        intro m hm
        by_cases h10 : m < 10
        · rw [dec1 m h10]; simp
        · rw [decS m h10, List.length_append]
          have := ih (m / 10) (by rw [Nat.pow_succ] at hm; omega)
          simp
          omega
    exact key 7 (n / 100) (by omega)
  have : (fmtM n).size = (Lib.decDigits (n / 100)).length + 3 := by unfold fmtM fmtL; rw [S_size]; simp
  omega
end Go.Proofs.YtbemenflkebpnaaDoor
