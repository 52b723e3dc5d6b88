/- Layer 5: the consequences, in plain mathematics. No program is named here. -/
import Derived.Test.YtnbjgkhngolhfaaDoorPlain05
namespace Go.Proofs.YtnbjgkhngolhfaaDoor
open Go.RowKit Go.PlainAid

theorem getD_snoc_lo (l : List UInt8) (x : UInt8) (i : Nat) (h : i < l.length) : (l ++ [x]).getD i 0 = l.getD i 0 := by
  rw [List.getD_eq_getElem?_getD, List.getElem?_append_left h, ← List.getD_eq_getElem?_getD]
theorem getD_snoc_hi (l : List UInt8) (x : UInt8) : (l ++ [x]).getD l.length 0 = x := by
  rw [List.getD_eq_getElem?_getD, List.getElem?_append_right (Nat.le_refl _), Nat.sub_self]; rfl
theorem dgt_digB (c : Nat) (h : c ≤ 9) : digB (dgt c) = true := by rw [digB_iff, dgt_nat c h]; omega
theorem dgt_dv (x : UInt8) (h : digB x = true) : dgt (x.toNat - 48) = x := by
  rw [digB_iff] at h
  apply UInt8.toNat_inj.1
  rw [dgt_nat _ (by omega)]
  omega
theorem digU_snoc (n : Nat) : ∀ k, digU n (k + 1) = digU (n / 10) k ++ [dgt (n % 10)]
  | 0 => by simp [digU]
  | k + 1 => by
    rw [digU, digU_snoc n k, digU, List.cons_append]
    congr 2
    rw [Nat.pow_succ, Nat.mul_comm, ← Nat.div_div_eq_div_mul]
theorem valL_digU : ∀ (k n : Nat) (l : List UInt8) (a : Nat), n < 10 ^ k → (∀ i, i < k → l.getD (a + i) 0 = (digU n k).getD i 0) → valL l a k = n
  | 0, n, l, a, h, _ => by simp at h; subst h; rfl
  | k + 1, n, l, a, h, hd => by
    have hlen := digU_length (n / 10) k
    have h1 : valL l a k = n / 10 := by
      refine valL_digU k (n / 10) l a (by rw [Nat.pow_succ] at h; omega) (fun i hi => ?_)
      rw [hd i (by omega), digU_snoc, getD_snoc_lo _ _ _ (by omega)]
    have h2 : dv l (a + k) = n % 10 := by
      unfold dv
      rw [hd k (by omega), digU_snoc]
      have := getD_snoc_hi (digU (n / 10) k) (dgt (n % 10))
      rw [hlen] at this
      rw [this, dgt_nat _ (by omega)]
      omega
    rw [valL, h1, h2]
    omega
theorem digU_valL (l : List UInt8) (a : Nat) : ∀ k, (∀ i, i < k → digB (l.getD (a + i) 0) = true) → digU (valL l a k) k = (List.range k).map fun i => l.getD (a + i) 0
  | 0, _ => rfl
  | k + 1, h => by
    have h9 := dv_le l (a + k) (h k (by omega))
    rw [digU_snoc, valL, show (valL l a k * 10 + dv l (a + k)) / 10 = valL l a k by omega, show (valL l a k * 10 + dv l (a + k)) % 10 = dv l (a + k) by omega, digU_valL l a k (fun i hi => h i (by omega)), List.range_succ, List.map_append]
    congr 1
    show [dgt (dv l (a + k))] = [l.getD (a + k) 0]
    unfold dv
    rw [dgt_dv _ (h k (by omega))]

theorem all_getD' (l : List UInt8) (p : UInt8 → Bool) : l.all p = true ↔ ∀ i, i < l.length → p (l.getD i 0) = true := by
  rw [List.all_eq_true]
  constructor
  · intro h i hi
    rw [List.getD_eq_getElem?_getD, List.getElem?_eq_getElem hi]
    exact h _ (List.getElem_mem hi)
  · intro h x hx
    obtain ⟨i, hi, rfl⟩ := List.getElem_of_mem hx
    have := h i hi
    rwa [List.getD_eq_getElem?_getD, List.getElem?_eq_getElem hi] at this
theorem digU_digs (n k : Nat) : (digU n k).all digB = true := by
  induction k with
  | zero => rfl
  | succ k ih => simp only [digU, List.all_cons, ih, Bool.and_true]; exact dgt_digB _ (by omega)

theorem mkL_length (k n : Nat) : (mkL k n).length = 14 := by simp [mkL, mkB, digU_length]
theorem mkL_take (k n : Nat) : (mkL k n).take 13 = mkB k n := by
  have : (mkB k n).length = 13 := by simp [mkB, digU_length]
  unfold mkL
  rw [← this, List.take_left]
theorem mkL_digs (k n : Nat) (hk : k ≤ 9) : (mkL k n).all digB = true := by
  unfold mkL mkB
  rw [List.all_append, List.all_cons, dgt_digB k hk, digU_digs]
  simp only [List.all_cons, List.all_nil, Bool.and_true, Bool.true_and]
  exact dgt_digB _ (comp_le _)
theorem mkL_last (k n : Nat) : (mkL k n).getD 13 0 = dgt (luhnC (mkB k n)) := by
  have h : (mkB k n).length = 13 := by simp [mkB, digU_length]
  have := getD_snoc_hi (mkB k n) (dgt (luhnC (mkB k n)))
  rw [h] at this
  exact this
/-- Parse of Make. -/
theorem parse_make (k n : Nat) (hk : k = 2 ∨ k = 3) (hn : n ≤ 9999) : parseI (mkL k n) = ((k : Int), (n : Int), 0) := by
  have h0 : (mkL k n).getD 0 0 = dgt k := rfl
  have hform : formB (mkL k n) = true := by
    unfold formB
    rw [mkL_length, mkL_digs k n (by omega), h0]
    rcases hk with rfl | rfl <;> rfl
  have hlast : dv (mkL k n) 13 = luhnC (mkB k n) := by
    unfold dv
    rw [mkL_last, dgt_nat (luhnC (mkB k n)) (comp_le _)]
    exact Nat.add_sub_cancel_left _ _
  have hval : valL (mkL k n) 1 12 = n := by
    refine valL_digU 12 n (mkL k n) 1 (Nat.lt_of_le_of_lt hn (by decide)) (fun i hi => ?_)
    have hl := digU_length n 12
    show (dgt k :: digU n 12 ++ [dgt (luhnC (mkB k n))]).getD (1 + i) 0 = _
    rw [Nat.add_comm 1 i, List.cons_append, List.getD_cons_succ, getD_snoc_lo _ _ _ (by omega)]
  have hd0 : dv (mkL k n) 0 = k := by
    unfold dv
    rw [h0, dgt_nat k (by omega)]
    exact Nat.add_sub_cancel_left _ _
  unfold parseI
  rw [if_pos hform, mkL_take, hlast, if_pos rfl, hval, if_pos hn, hd0]
/-- Make of what Parse accepts. -/
theorem make_parse (l : List UInt8) (x y : Int) (h : parseI l = (x, y, 0)) : makeI x y = (l, 0) := by
  unfold parseI at h
  by_cases hf : formB l = true
  · rw [if_pos hf] at h
    by_cases hc : luhnC (l.take 13) = dv l 13
    · rw [if_pos hc] at h
      by_cases hv : valL l 1 12 ≤ 9999
      · rw [if_pos hv] at h
        simp only [Prod.mk.injEq, and_true] at h
        obtain ⟨rfl, rfl⟩ := h
        unfold formB at hf
        simp only [Bool.and_eq_true, decide_eq_true_eq, Bool.or_eq_true] at hf
        obtain ⟨⟨h14, hd⟩, h23⟩ := hf
        have hdg := (all_getD' l digB).1 hd
        have hk : dv l 0 = 2 ∨ dv l 0 = 3 := by
          unfold dv
          rcases h23 with h | h
          · rw [h]; exact .inl rfl
          · rw [h]; exact .inr rfl
        have hB : mkB (dv l 0) (valL l 1 12) = l.take 13 := by
          unfold mkB
          rw [digU_valL l 1 12 (fun i hi => hdg _ (by omega))]
          apply List.ext_getElem?
          intro i
          rcases i with _ | i
          · show some (dgt (dv l 0)) = _
            rw [List.getElem?_take_of_lt (by decide), List.getElem?_eq_getElem (by omega)]
            congr 1
            have h1 := hdg 0 (by omega)
            have h2 := dgt_dv _ h1
            unfold dv
            rw [h2, List.getD_eq_getElem?_getD, List.getElem?_eq_getElem (by omega)]
            rfl
          · rw [List.getElem?_cons_succ]
            by_cases hi : i < 12
            · rw [List.getElem?_map, List.getElem?_range hi, List.getElem?_take_of_lt (by omega), List.getElem?_eq_getElem (by omega)]
              simp only [Option.map_some]
              congr 1
              rw [Nat.add_comm 1 i, List.getD_eq_getElem?_getD, List.getElem?_eq_getElem (by omega)]
              rfl
            · rw [List.getElem?_eq_none (by simp; omega), List.getElem?_eq_none (by rw [List.length_take]; omega)]
        have hL : mkL (dv l 0) (valL l 1 12) = l := by
          unfold mkL
          rw [hB, hc]
          have h1 := dgt_dv _ (hdg 13 (by omega))
          unfold dv
          rw [h1, List.getD_eq_getElem?_getD, List.getElem?_eq_getElem (by omega)]
          show l.take 13 ++ [l[13]] = l
          rw [← List.take_succ_eq_append_getElem (by omega), show 13 + 1 = l.length by omega, List.take_length]
        unfold makeI
        rw [if_pos (by omega), if_pos (by omega), Int.toNat_natCast, Int.toNat_natCast, hL]
      · rw [if_neg hv] at h
        simp at h
    · rw [if_neg hc] at h
      simp at h
  · rw [if_neg hf] at h
    simp at h

/-! Serial numbers. -/
theorem issnT_ok (t r : List UInt8) (h : issnT t = (r, 0)) : t.length = 8 ∧ r = t.take 4 ++ [45] ++ t.drop 4 := by
  unfold issnT at h
  by_cases h1 : t.length = 8 ∧ endedB t = true
  · rw [if_pos h1] at h
    by_cases h2 : wS t % 11 = 0
    · rw [if_pos h2] at h
      simp only [Prod.mk.injEq, and_true] at h
      exact ⟨h1.1, h.symm⟩
    · rw [if_neg h2] at h
      simp at h
  · rw [if_neg h1] at h
    simp at h
theorem issnT_bad (t r : List UInt8) (e : Int) (h : issnT t = (r, e)) (he : e ≠ 0) : r = [] := by
  unfold issnT at h
  split at h
  · split at h
    · simp only [Prod.mk.injEq] at h
      exact absurd h.2.symm he
    · simp only [Prod.mk.injEq] at h
      exact h.1.symm
  · simp only [Prod.mk.injEq] at h
    exact h.1.symm
theorem issn_again (l r : List UInt8) (h : issnI l = (r, 0)) : r.length = 9 ∧ issnI r = (r, 0) ∧ issnI (r.take 4 ++ r.drop 5) = (r, 0) := by
  unfold issnI at h
  generalize (if l.length = 9 ∧ l.getD 4 0 = 45 then l.take 4 ++ l.drop 5 else l) = t at h
  obtain ⟨h8, hr⟩ := issnT_ok t r h
  have ha : (t.take 4).length = 4 := by rw [List.length_take]; omega
  have hb : (t.drop 4).length = 4 := by rw [List.length_drop]; omega
  have h9 : r.length = 9 := by rw [hr]; simp only [List.length_append, ha, hb]; rfl
  have h4 : r.getD 4 0 = 45 := by
    rw [hr, List.append_assoc, List.getD_eq_getElem?_getD, List.getElem?_append_right (by omega), ha]
    rfl
  have ht : r.take 4 ++ r.drop 5 = t := by
    have e1 : r.take 4 = t.take 4 := by rw [hr, List.append_assoc]; exact List.take_left' ha
    have e2 : r.drop 5 = t.drop 4 := by
      rw [hr, show 5 = (t.take 4 ++ [45]).length by rw [List.length_append, ha]; rfl, List.drop_left]
    rw [e1, e2, List.take_append_drop]
  refine ⟨h9, ?_, ?_⟩
  · unfold issnI
    rw [if_pos ⟨h9, h4⟩, ht]
    exact h
  · rw [ht]
    unfold issnI
    rw [if_neg (fun hh => by omega)]
    exact h

/-! Book numbers. -/
theorem altS_snoc (p : List UInt8) (x : UInt8) (h : p.length % 2 = 0) : altS (p ++ [x]) = altS p + (x.toNat - 48) := by
  unfold altS
  rw [List.length_append]
  show addN _ (p.length + 1) = _
  rw [addN]
  congr 1
  · refine addN_congr _ fun i hi => ?_
    unfold dv
    rw [getD_snoc_lo _ _ _ hi]
  · rw [if_neg (by omega)]
    unfold dv
    rw [getD_snoc_hi]
theorem ended_digs (t : List UInt8) (h : endedB t = true) : (t.take (t.length - 1)).all digB = true := by
  unfold endedB at h
  simp only [Bool.and_eq_true] at h
  exact h.1.2
theorem isbnT_bad (t r : List UInt8) (e : Int) (h : isbnT t = (r, e)) (he : e ≠ 0) : r = [] := by
  unfold isbnT at h
  split at h
  · split at h
    · simp only [Prod.mk.injEq] at h
      exact absurd h.2.symm he
    · simp only [Prod.mk.injEq] at h
      exact h.1.symm
  · split at h
    · split at h
      · simp only [Prod.mk.injEq] at h
        exact absurd h.2.symm he
      · simp only [Prod.mk.injEq] at h
        exact h.1.symm
    · simp only [Prod.mk.injEq] at h
      exact h.1.symm
theorem isbnT_ok (t r : List UInt8) (h : isbnT t = (r, 0)) : r.length = 13 ∧ r.all digB = true ∧ isbnT r = (r, 0) := by
  have key : r.length = 13 ∧ r.all digB = true ∧ (r.take 3 = [57, 55, 56] ∨ r.take 3 = [57, 55, 57]) ∧ altS r % 10 = 0 := by
    unfold isbnT at h
    by_cases h1 : t.length = 13 ∧ t.all digB = true ∧ (t.take 3 = [57, 55, 56] ∨ t.take 3 = [57, 55, 57])
    · rw [if_pos h1] at h
      by_cases h2 : altS t % 10 = 0
      · rw [if_pos h2] at h
        simp only [Prod.mk.injEq, and_true] at h
        subst h
        exact ⟨h1.1, h1.2.1, h1.2.2, h2⟩
      · rw [if_neg h2] at h
        simp at h
    · rw [if_neg h1] at h
      by_cases h2 : t.length = 10 ∧ endedB t = true
      · rw [if_pos h2] at h
        by_cases h3 : wS t % 11 = 0
        · rw [if_pos h3] at h
          simp only [Prod.mk.injEq, and_true] at h
          obtain ⟨p, hp⟩ : ∃ p, ([57, 55, 56] ++ t.take 9 : List UInt8) = p := ⟨_, rfl⟩
          rw [hp] at h
          have hl : p.length = 12 := by rw [← hp, List.length_append, List.length_take]; simp; omega
          have hd : p.all digB = true := by
            have := ended_digs t h2.2
            rw [h2.1] at this
            rw [← hp, List.all_append, this]
            decide
          subst h
          refine ⟨by rw [List.length_append, hl]; rfl, ?_, .inl ?_, ?_⟩
          · rw [List.all_append, hd]
            simp only [List.all_cons, List.all_nil, Bool.and_true, Bool.true_and]
            exact dgt_digB _ (comp_le _)
          · rw [← hp]; rfl
          · rw [altS_snoc p _ (by omega), dgt_nat _ (comp_le _)]
            unfold comp
            omega
        · rw [if_neg h3] at h
          simp at h
      · rw [if_neg h2] at h
        simp at h
  obtain ⟨h1, h2, h3, h4⟩ := key
  refine ⟨h1, h2, ?_⟩
  unfold isbnT
  rw [if_pos ⟨h1, h2, h3⟩, if_pos h4]
theorem removed_digs (t : List UInt8) (h : t.all digB = true) : removed t = t := by
  unfold removed
  rw [List.filter_eq_self]
  intro x hx
  have := (List.all_eq_true.1 h) x hx
  rw [digB_iff] at this
  have h1 : x ≠ 45 := fun h => by rw [h] at this; exact absurd this.1 (by decide)
  have h2 : x ≠ 32 := fun h => by rw [h] at this; exact absurd this.1 (by decide)
  simp [keep, h1, h2]
theorem isbn_again (l r : List UInt8) (h : isbnI l = (r, 0)) (k : Nat) : r.length = 13 ∧ isbnI r = (r, 0) ∧ isbnI ([45] ++ r.take k ++ [32, 45, 32] ++ r.drop k ++ [32]) = (r, 0) ∧ isbnI (l ++ [45]) = (r, 0) := by
  obtain ⟨h1, h2, h3⟩ := isbnT_ok _ _ h
  have hr := removed_digs r h2
  refine ⟨h1, ?_, ?_, ?_⟩
  · unfold isbnI
    rw [hr]
    exact h3
  · unfold isbnI
    have e : removed ([45] ++ r.take k ++ [32, 45, 32] ++ r.drop k ++ [32]) = r := by
      have e2 : removed (r.take k) ++ removed (r.drop k) = removed r := by
        unfold removed
        rw [← List.filter_append, List.take_append_drop]
      rw [hr] at e2
      unfold removed at e2 ⊢
      simp only [List.filter_append]
      have c1 : [45].filter keep = [] := by decide
      have c2 : [32, 45, 32].filter keep = [] := by decide
      have c3 : [32].filter keep = [] := by decide
      rw [c1, c2, c3, List.nil_append, List.append_nil, List.append_nil]
      exact e2
    rw [e]
    exact h3
  · unfold isbnI at h ⊢
    have e : removed (l ++ [45]) = removed l := by
      unfold removed
      rw [List.filter_append, show [45].filter keep = [] by decide, List.append_nil]
    rw [e]
    exact h
end Go.Proofs.YtnbjgkhngolhfaaDoor
