/- Layer 5: what the library's functions that package barcode takes say of texts, in plain mathematics. No program is walked here. -/
import Derived.Test.YtnbjgkhngolhfaaDoorLaw05P
import Derived.Test.YtnbjgkhngolhfaaDoorR05C
import Derived.Lib.ReplaceLaws
import Derived.Lib.Repeat
import Derived.Lib.Atoi
import Derived.Lib.ItoaNum
import Derived.Lib.Strings
namespace Go.Proofs.YtnbjgkhngolhfaaDoor
open Go.RowKit Go.PlainAid

/-! strings.ReplaceAll of one byte by nothing. -/
theorem index_cons (b : UInt8) (l : List UInt8) (c : UInt8) : Lib.index (b :: l) [c] = if c = b then 0 else if Lib.index l [c] = -1 then -1 else Lib.index l [c] + 1 := by
  rw [Lib.index]
  have e : [c].isPrefixOf (b :: l) = decide (c = b) := by
    show (c == b && _) = _
    rw [show ([] : List UInt8).isPrefixOf l = true from by cases l <;> rfl, Bool.and_true]
    rfl
  rw [e]
  by_cases h : c = b
  · simp [h]
  · simp [h]
theorem strike_one (c : UInt8) : ∀ l : List UInt8, Lib.replaceK [c] [] (Lib.count l [c]) l = l.filter fun x => decide (x ≠ c)
  | [] => by
    rw [Lib.count_miss (show Lib.index [] [c] = -1 from rfl)]
    rfl
  | b :: l => by
    have ih := strike_one c l
    by_cases h : c = b
    · have hi : Lib.index (b :: l) [c] = ((0 : Nat) : Int) := by rw [index_cons, if_pos h]; rfl
      rw [Lib.count_hit (by simp) hi, Nat.add_comm 1, Lib.replaceK_hit _ _ _ _ 0 hi]
      simp only [List.take_zero, List.nil_append, Nat.zero_add, List.length_cons, List.length_nil, List.drop_succ_cons, List.drop_zero]
      rw [ih, List.filter_cons_of_neg (by simp [h])]
    · have hb : (fun x : UInt8 => decide (x ≠ c)) b = true := decide_eq_true fun e => h e.symm
      rcases Int.lt_or_le (Lib.index l [c]) 0 with hn | hp
      · have hm : Lib.index l [c] = -1 := by have := Lib.index_ge l [c]; omega
        have hi : Lib.index (b :: l) [c] = -1 := by rw [index_cons, if_neg h, if_pos hm]
        rw [Lib.count_miss hm] at ih
        rw [Lib.count_miss hi, List.filter_cons_of_pos (p := fun x : UInt8 => decide (x ≠ c)) hb, ← ih]
        rfl
      · obtain ⟨i, hm⟩ : ∃ i : Nat, Lib.index l [c] = i := ⟨(Lib.index l [c]).toNat, by omega⟩
        have hi : Lib.index (b :: l) [c] = ((i + 1 : Nat) : Int) := by rw [index_cons, if_neg h, if_neg (by omega), hm]; rfl
        rw [Lib.count_hit (by simp) hm, Nat.add_comm 1, Lib.replaceK_hit _ _ _ _ i hm] at ih
        rw [Lib.count_hit (by simp) hi, Nat.add_comm 1, Lib.replaceK_hit _ _ _ _ (i + 1) hi, List.filter_cons_of_pos (p := fun x : UInt8 => decide (x ≠ c)) hb, ← ih]
        simp only [List.length_cons, List.length_nil, Nat.zero_add, List.append_nil, List.take_succ_cons, List.cons_append, List.drop_succ_cons]
theorem struck (c : UInt8) (l : List UInt8) : Lib.replaceAll l [c] [] = l.filter fun x => decide (x ≠ c) := by
  unfold Lib.replaceAll Lib.replace Lib.replaceNum
  rw [if_neg (by simp), if_pos (Or.inl (by decide))]
  exact strike_one c l
theorem struck_both (l : List UInt8) : Lib.replaceAll (Lib.replaceAll l [45] []) [32] [] = removed l := by
  rw [struck, struck, List.filter_filter]
  unfold removed keep
  refine List.filter_congr fun x _ => ?_
  rw [Bool.and_comm]

/-! strings.TrimSuffix of an X. -/
theorem trim_snoc (l : List UInt8) (x : UInt8) : Lib.trimSuffix (l ++ [x]) [88] = if x = 88 then l else l ++ [x] := by
  unfold Lib.trimSuffix Lib.hasSuffix
  by_cases h : x = 88
  · subst h
    rw [if_pos (List.isSuffixOf_iff_suffix.2 ⟨l, rfl⟩), if_pos rfl]
    simp
  · rw [if_neg h, if_neg]
    intro hs
    obtain ⟨t, ht⟩ := List.isSuffixOf_iff_suffix.1 hs
    have := List.append_inj_right' ht rfl
    exact h (by simpa using this.symm)
theorem snoc_of (l : List UInt8) (h : 1 ≤ l.length) : ∃ t x, l = t ++ [x] := by
  rcases List.eq_nil_or_concat l with rfl | ⟨t, x, rfl⟩
  · simp at h
  · exact ⟨t, x, by simp⟩
theorem trim_ended (l : List UInt8) (h : 1 ≤ l.length) : (Lib.trimSuffix l [88]).all digB = endedB l := by
  obtain ⟨t, x, rfl⟩ := snoc_of l h
  unfold endedB
  have e1 : (t ++ [x]).length - 1 = t.length := by simp
  rw [trim_snoc, e1, getD_snoc_hi, List.take_left, decide_eq_true h, Bool.true_and]
  by_cases hx : x = 88
  · subst hx
    rw [if_pos rfl, decide_eq_true rfl, Bool.or_true, Bool.and_true]
  · rw [if_neg hx, decide_eq_false hx, Bool.or_false, List.all_append]
    simp

/-! strings.HasPrefix. -/
theorem begins_three (l : List UInt8) (a b c : UInt8) (h : 3 ≤ l.length) : Lib.hasPrefix l [a, b, c] = decide (l.take 3 = [a, b, c]) := by
  rw [← Lib.hasPrefix_of_take]
  rw [show decide ([a, b, c].length ≤ l.length) = true from decide_eq_true h, Bool.true_and, Bool.eq_iff_iff, beq_iff_eq, decide_eq_true_iff]
  rfl

/-! strconv.Atoi of digits. -/
theorem dec_from (l : List UInt8) (a n : Nat) (hl : a + n ≤ l.length) (hd : ∀ i, i < n → digB (l.getD (a + i) 0) = true) : ∀ k, k ≤ n → Lib.decFrom 0 (((l.drop a).take n).take k) = some (valL l a k)
  | 0, _ => rfl
  | k + 1, hk => by
    have ih := dec_from l a n hl hd k (by omega)
    have hb : ((l.drop a).take n)[k]? = some (l.getD (a + k) 0) := by
      rw [List.getElem?_take_of_lt (by omega), List.getElem?_drop, List.getD_eq_getElem?_getD, List.getElem?_eq_getElem (show a + k < l.length by omega)]
      rfl
    have h1 := hd k (by omega)
    rw [digB_iff] at h1
    refine Lib.decFrom_take _ k 0 _ _ _ ih hb ?_
    rw [Lib.digitVal, if_pos h1]
    rfl
theorem atoi_digits (l : List UInt8) (a n : Nat) (h1 : 1 ≤ n) (hl : a + n ≤ l.length) (hd : ∀ i, i < n → digB (l.getD (a + i) 0) = true) : Lib.atoi ((l.drop a).take n) = some ((valL l a n : Nat) : Int) := by
  have h := dec_from l a n hl hd n (Nat.le_refl n)
  rw [List.take_take, Nat.min_self] at h
  have hlen : ((l.drop a).take n).length = n := by rw [List.length_take, List.length_drop]; omega
  have h0 : ((l.drop a).take n)[0]? = some (l.getD (a + 0) 0) := by
    rw [List.getElem?_take_of_lt (by omega), List.getElem?_drop, List.getD_eq_getElem?_getD, List.getElem?_eq_getElem (show a + 0 < l.length by omega)]
    rfl
  have hd0 := hd 0 (by omega)
  generalize (l.drop a).take n = m at *
  cases m with
  | nil => simp at hlen; omega
  | cons b r =>
    simp only [List.getElem?_cons_zero, Option.some.injEq] at h0
    rw [← h0, digB_iff] at hd0
    have n1 : (b == 45) = false := by
      rw [beq_eq_false_iff_ne]
      rintro rfl
      revert hd0
      decide
    have n2 : (b == 43) = false := by
      rw [beq_eq_false_iff_ne]
      rintro rfl
      revert hd0
      decide
    rw [Lib.atoi, n1, n2]
    simp only [Bool.false_eq_true, if_false, Lib.decNat, List.isEmpty_cons]
    rw [h]
    rfl

/-! strconv.Itoa behind noughts. -/
theorem noughts (c : Nat) : Lib.repeatL [48] c = List.replicate c 48 := by
  have := Lib.repeatL_replicate 48 1 c
  rwa [Nat.mul_one] at this
theorem noughts_snoc (c : Nat) : List.replicate (c + 1) (48 : UInt8) = List.replicate c 48 ++ [48] := by rw [List.replicate_succ']
theorem dec_one (n : Nat) (h : n < 10) : Lib.decDigits n = [dgt n] := by rw [Lib.decDigits, dif_pos h]; rfl
theorem dec_pad : ∀ k n, 1 ≤ k → n < 10 ^ k → 1 ≤ (Lib.decDigits n).length ∧ (Lib.decDigits n).length ≤ k ∧ digU n k = Lib.repeatL [48] (k - (Lib.decDigits n).length) ++ Lib.decDigits n
  | 0, _, h, _ => by omega
  | 1, n, _, h => by
    have hn : n < 10 := by simpa using h
    rw [Lib.decDigits, dif_pos hn]
    refine ⟨by simp, by simp, ?_⟩
    simp only [digU, Nat.pow_zero, Nat.div_one, Nat.mod_eq_of_lt hn]
    rfl
  | k + 2, n, _, h => by
    have hp : n / 10 < 10 ^ (k + 1) := by rw [Nat.pow_succ] at h; omega
    obtain ⟨h1, h2, h3⟩ := dec_pad (k + 1) (n / 10) (by omega) hp
    rw [digU_snoc, h3]
    by_cases hn : n < 10
    · have e0 : n / 10 = 0 := by omega
      rw [e0, dec_one 0 (by decide), dec_one n hn, noughts, noughts]
      refine ⟨by simp, by simp, ?_⟩
      rw [Nat.mod_eq_of_lt hn]
      show List.replicate k 48 ++ [dgt 0] ++ [dgt n] = List.replicate (k + 1) 48 ++ [dgt n]
      rw [noughts_snoc]
      rfl
    · have e0 : Lib.decDigits n = Lib.decDigits (n / 10) ++ [dgt (n % 10)] := by rw [Lib.decDigits, dif_neg hn]; rfl
      rw [e0]
      refine ⟨by simp, by simp; omega, ?_⟩
      rw [← List.append_assoc]
      congr 3
      simp
/-- The barcode without its check digit, as it is put together. -/
theorem body_of (k n : Nat) (hk : k ≤ 9) (hn : n ≤ 9999) : (Lib.decDigits k ++ Lib.repeatL [48] (12 - (Lib.decDigits n).length)) ++ Lib.decDigits n = mkB k n := by
  obtain ⟨_, _, h3⟩ := dec_pad 12 n (by decide) (by omega)
  unfold mkB
  rw [h3, dec_one k (by omega), List.append_assoc]
  rfl
theorem dec_four (n : Nat) (hn : n ≤ 9999) : 1 ≤ (Lib.decDigits n).length ∧ (Lib.decDigits n).length ≤ 4 := by
  obtain ⟨h1, h2, _⟩ := dec_pad 4 n (by decide) (by omega)
  exact ⟨h1, h2⟩

/-! The check digit; what a character counts. -/
theorem wd_digit (x : UInt8) (h : digB x = true) : wd x = x.toNat - 48 := by
  rw [digB_iff] at h
  unfold wd
  rw [if_neg]
  rintro rfl
  revert h
  decide
end Go.Proofs.YtnbjgkhngolhfaaDoor
