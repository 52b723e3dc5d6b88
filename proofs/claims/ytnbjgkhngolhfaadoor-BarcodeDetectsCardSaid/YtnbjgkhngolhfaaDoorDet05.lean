/- Layer 5: errors of typing, in plain mathematics. -/
import Derived.Test.YtnbjgkhngolhfaaDoorLaw05P
namespace Go.Proofs.YtnbjgkhngolhfaaDoor
open Go.RowKit Go.PlainAid

/-- The weight of a digit at a place from the right, the check digit's among them; the sum of all. -/
def tw (p d : Nat) : Nat := if p % 2 = 1 then dbl d else d
def tot (l : List UInt8) : Nat := addN (fun p => tw p (dv l (13 - p))) 14
theorem tot_eq (l : List UInt8) (h : l.length = 14) : luhnS (l.take 13) + dv l 13 = tot l := by
  have h13 : (l.take 13).length = 13 := by rw [List.length_take]; omega
  unfold tot
  rw [addN_front]
  unfold luhnS
  rw [h13, Nat.add_comm]
  congr 1
  refine addN_congr _ fun i hi => ?_
  have e : dv (l.take 13) (13 - 1 - i) = dv l (13 - (i + 1)) := by
    unfold dv
    rw [List.getD_eq_getElem?_getD, List.getElem?_take_of_lt (by omega), ← List.getD_eq_getElem?_getD, show 13 - 1 - i = 13 - (i + 1) by omega]
  rw [e]
  unfold lw tw
  by_cases h2 : i % 2 = 0
  · rw [if_pos h2, if_pos (by omega)]
  · rw [if_neg h2, if_neg (by omega)]
theorem parse_tot (l : List UInt8) (x y : Int) (h : parseI l = (x, y, 0)) : l.length = 14 ∧ l.all digB = true ∧ tot l % 10 = 0 := by
  unfold parseI at h
  by_cases hf : formB l = true
  · rw [if_pos hf] at h
    unfold formB at hf
    simp only [Bool.and_eq_true, decide_eq_true_eq, Bool.or_eq_true] at hf
    obtain ⟨⟨h14, hd⟩, _⟩ := hf
    by_cases hc : luhnC (l.take 13) = dv l 13
    · refine ⟨h14, hd, ?_⟩
      rw [← tot_eq l h14, ← hc]
      unfold luhnC comp
      omega
    · rw [if_neg hc] at h
      simp at h
  · rw [if_neg hf] at h
    simp at h
theorem addN_one {f g : Nat → Nat} (p : Nat) : ∀ n, (∀ q, q < n → q ≠ p → g q = f q) → p < n → addN g n + f p = addN f n + g p
  | n + 1, h, hp => by
    simp only [addN]
    by_cases e : p = n
    · subst e
      have := addN_congr (f := g) (g := f) p (fun i hi => h i (by omega) (by omega))
      omega
    · have := addN_one p n (fun q hq => h q (by omega)) (by omega)
      have := h n (by omega) (by omega)
      omega
theorem getD_set (l : List UInt8) (i j : Nat) (x : UInt8) (hi : i < l.length) : (l.set i x).getD j 0 = if j = i then x else l.getD j 0 := by
  rw [List.getD_eq_getElem?_getD, List.getElem?_set]
  by_cases h : i = j
  · subst h
    rw [if_pos rfl, if_pos hi, if_pos rfl]
    rfl
  · rw [if_neg h, if_neg (fun h2 => h h2.symm), ← List.getD_eq_getElem?_getD]
theorem tot_set (l : List UInt8) (hl : l.length = 14) (i : Nat) (hi : i < 14) (x : UInt8) : tot (l.set i x) + tw (13 - i) (dv l i) = tot l + tw (13 - i) (x.toNat - 48) := by
  have h := addN_one (f := fun p => tw p (dv l (13 - p))) (g := fun p => tw p (dv (l.set i x) (13 - p))) (13 - i) 14 (fun q hq14 hq => ?_) (by omega)
  · unfold tot
    have e1 : 13 - (13 - i) = i := by omega
    have e2 : dv (l.set i x) i = x.toNat - 48 := by unfold dv; rw [getD_set l i i x (by omega), if_pos rfl]
    simp only [e1, e2] at h
    exact h
  · show tw q (dv (l.set i x) (13 - q)) = tw q (dv l (13 - q))
    unfold dv
    rw [getD_set l i _ x (by omega), if_neg (by omega)]
theorem tw_inj (p a b : Nat) (ha : a ≤ 9) (hb : b ≤ 9) (h : tw p a % 10 = tw p b % 10) : a = b := by
  unfold tw at h
  have key : ∀ a, a < 10 → ∀ b, b < 10 → dbl a % 10 = dbl b % 10 → a = b := by decide
  by_cases hp : p % 2 = 1
  · rw [if_pos hp, if_pos hp] at h
    exact key a (by omega) b (by omega) h
  · rw [if_neg hp, if_neg hp] at h
    omega
theorem tw_le (p d : Nat) (h : d ≤ 9) : tw p d ≤ 9 := by
  unfold tw
  split
  · exact dbl_le d h
  · exact h
/-- One digit replaced. -/
theorem det_one (l : List UInt8) (hl : l.length = 14) (ht : tot l % 10 = 0) (hd : l.all digB = true) (i : Nat) (hi : i < 14) (c : Nat) (hc : c ≤ 9) (hne : c ≠ dv l i) (x y er : Int) (h : parseI (l.set i (dgt c)) = (x, y, er)) : er ≠ 0 := by
  rintro rfl
  obtain ⟨_, _, h3⟩ := parse_tot _ x y h
  have h4 := tot_set l hl i hi (dgt c)
  rw [dgt_nat c hc] at h4
  have h5 := (dv_le l i ((all_getD' l digB).1 hd i (by omega))).1
  have h6 := tw_le (13 - i) (dv l i) h5
  have h7 := tw_le (13 - i) c hc
  rw [show 48 + c - 48 = c by omega] at h4
  exact hne (tw_inj (13 - i) c (dv l i) hc h5 (by omega))
theorem swap_key : ∀ a, a < 10 → ∀ b, b < 10 → (dbl a + b) % 10 = (dbl b + a) % 10 → a = b ∨ (a = 0 ∧ b = 9) ∨ (a = 9 ∧ b = 0) := by decide
/-- Two neighbours exchanged. -/
theorem det_two (l : List UInt8) (hl : l.length = 14) (ht : tot l % 10 = 0) (hd : l.all digB = true) (k : Nat) (hk : k < 13) (hne : l.getD k 0 ≠ l.getD (k + 1) 0) (h09 : ¬ (l.getD k 0 = 48 ∧ l.getD (k + 1) 0 = 57)) (h90 : ¬ (l.getD k 0 = 57 ∧ l.getD (k + 1) 0 = 48)) (x y er : Int)
    (h : parseI ((l.set k (l.getD (k + 1) 0)).set (k + 1) (l.getD k 0)) = (x, y, er)) : er ≠ 0 := by
  rintro rfl
  obtain ⟨_, _, h3⟩ := parse_tot _ x y h
  have a1 := dv_le l k ((all_getD' l digB).1 hd k (by omega))
  have a2 := dv_le l (k + 1) ((all_getD' l digB).1 hd (k + 1) (by omega))
  have t1 := tot_set l hl k (by omega) (l.getD (k + 1) 0)
  have t2 := tot_set (l.set k (l.getD (k + 1) 0)) (by rw [List.length_set]; exact hl) (k + 1) (by omega) (l.getD k 0)
  have e1 : dv (l.set k (l.getD (k + 1) 0)) (k + 1) = dv l (k + 1) := by unfold dv; rw [getD_set l k (k + 1) _ (by omega), if_neg (by omega)]
  rw [e1] at t2
  have s1 : (l.getD k 0).toNat - 48 = dv l k := rfl
  have s2 : (l.getD (k + 1) 0).toNat - 48 = dv l (k + 1) := rfl
  rw [s2] at t1
  rw [s1] at t2
  have b1 := a1.2
  have b2 := a2.2
  have n1 : dv l k ≠ dv l (k + 1) := fun h => hne (UInt8.toNat_inj.1 (by omega))
  have n2 : ¬ (dv l k = 0 ∧ dv l (k + 1) = 9) := fun h => h09 ⟨UInt8.toNat_inj.1 (by rw [b1, h.1]; rfl), UInt8.toNat_inj.1 (by rw [b2, h.2]; rfl)⟩
  have n3 : ¬ (dv l k = 9 ∧ dv l (k + 1) = 0) := fun h => h90 ⟨UInt8.toNat_inj.1 (by rw [b1, h.1]; rfl), UInt8.toNat_inj.1 (by rw [b2, h.2]; rfl)⟩
  have c1 := a1.1
  have c2 := a2.1
  have w1 := tw_le (13 - k) (dv l k) c1
  have w2 := tw_le (13 - k) (dv l (k + 1)) c2
  have w3 := tw_le (13 - (k + 1)) (dv l k) c1
  have w4 := tw_le (13 - (k + 1)) (dv l (k + 1)) c2
  generalize dv l k = a at *
  generalize dv l (k + 1) = b at *
  have hmod : (tw (13 - k) a + tw (13 - (k + 1)) b) % 10 = (tw (13 - k) b + tw (13 - (k + 1)) a) % 10 := by omega
  have key := swap_key a (by omega) b (by omega)
  have key2 := swap_key b (by omega) a (by omega)
  unfold tw at hmod
  by_cases hp : (13 - k) % 2 = 1
  · rw [if_pos hp, if_pos hp, if_neg (by omega), if_neg (by omega)] at hmod
    rcases key hmod with h | h | h
    · exact n1 h
    · exact n2 h
    · exact n3 h
  · rw [if_neg hp, if_neg hp, if_pos (by omega), if_pos (by omega)] at hmod
    rcases key2 (by omega) with h | h | h
    · exact n1 h.symm
    · exact n3 ⟨h.2, h.1⟩
    · exact n2 ⟨h.2, h.1⟩
end Go.Proofs.YtnbjgkhngolhfaaDoor
