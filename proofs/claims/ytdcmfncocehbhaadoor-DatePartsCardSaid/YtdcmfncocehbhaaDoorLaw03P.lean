/- Layer 3: the text of a date is read back as it. -/
import Derived.Test.YtdcmfncocehbhaaDoorR03Par
import Derived.Test.YtdcmfncocehbhaaDoorR03Dig
namespace Go.Proofs.YtdcmfncocehbhaaDoor
open Go.RowKit Go.PlainAid

theorem bt_data (s : ByteArray) (i : Nat) : bt s i = ((s.data.toList.getD i 0).toNat : Int) := by
  unfold bt
  by_cases h : i < s.size
  · rw [dif_pos h]
    have h' : i < s.data.toList.length := by simpa using h
    simp [List.getD, List.getElem?_eq_getElem h']
    rfl
  · rw [dif_neg h]
    have h' : ¬ i < s.data.toList.length := by simpa using h
    simp [List.getD, List.getElem?_eq_none (Nat.le_of_not_lt h')]

theorem digS_list (n k : Nat) : (digS n k).data.toList = (digL n k).map UInt8.ofNat := by
  unfold digS
  rw [strOfNums_data, List.map_map]
  rfl
theorem fmt_list (y m d : Nat) : (fmtS y m d).data.toList = (digL y 4 ++ [45] ++ digL m 2 ++ [45] ++ digL d 2).map UInt8.ofNat := by
  unfold fmtS
  simp only [ByteArray.data_append, Array.toList_append, digS_list, List.map_append]
  rfl
theorem fmt_size (y m d : Nat) : (fmtS y m d).size = 10 := by
  unfold fmtS
  simp only [ByteArray.size_append, digS_size]
  rfl
theorem fmt_bt (y m d i : Nat) : bt (fmtS y m d) i = (((digL y 4 ++ [45] ++ digL m 2 ++ [45] ++ digL d 2).getD i 0 % 256 : Nat) : Int) := by
  rw [bt_data, fmt_list]
  generalize digL y 4 ++ [45] ++ digL m 2 ++ [45] ++ digL d 2 = l
  by_cases h : i < l.length
  · simp [List.getD, List.getElem?_eq_getElem h]
  · simp [List.getD, List.getElem?_eq_none (Nat.le_of_not_lt h)]
theorem dig4 (y : Nat) : digL y 4 = [48 + y / 1000 % 10, 48 + y / 100 % 10, 48 + y / 10 % 10, 48 + y % 10] := by simp [digL]
theorem dig2 (y : Nat) : digL y 2 = [48 + y / 10 % 10, 48 + y % 10] := by simp [digL]

theorem fmt_bts (y m d : Nat) :
    bt (fmtS y m d) 0 = ((48 + y / 1000 % 10 : Nat) : Int) ∧ bt (fmtS y m d) 1 = ((48 + y / 100 % 10 : Nat) : Int) ∧ bt (fmtS y m d) 2 = ((48 + y / 10 % 10 : Nat) : Int) ∧ bt (fmtS y m d) 3 = ((48 + y % 10 : Nat) : Int) ∧
    bt (fmtS y m d) 4 = 45 ∧ bt (fmtS y m d) 5 = ((48 + m / 10 % 10 : Nat) : Int) ∧ bt (fmtS y m d) 6 = ((48 + m % 10 : Nat) : Int) ∧ bt (fmtS y m d) 7 = 45 ∧ bt (fmtS y m d) 8 = ((48 + d / 10 % 10 : Nat) : Int) ∧ bt (fmtS y m d) 9 = ((48 + d % 10 : Nat) : Int) := by
  simp only [fmt_bt, dig4, dig2]
  refine ⟨?_, ?_, ?_, ?_, ?_, ?_, ?_, ?_, ?_, ?_⟩
  all_goals
    simp only [List.cons_append, List.nil_append, List.getD, List.getElem?_cons_zero, List.getElem?_cons_succ, Option.getD_some]
    omega
theorem fmt_fits (y m d : Nat) : ∀ i, i < 10 → fitsAt (fmtS y m d) i = true := by
  obtain ⟨h0, h1, h2, h3, h4, h5, h6, h7, h8, h9⟩ := fmt_bts y m d
  intro i hi
  unfold fitsAt
  match i, hi with
  | 0, _ => simp [h0]; omega
  | 1, _ => simp [h1]; omega
  | 2, _ => simp [h2]; omega
  | 3, _ => simp [h3]; omega
  | 4, _ => simp [h4]
  | 5, _ => simp [h5]; omega
  | 6, _ => simp [h6]; omega
  | 7, _ => simp [h7]
  | 8, _ => simp [h8]; omega
  | 9, _ => simp [h9]; omega
theorem fmt_nums (y m d : Nat) (hy : y < 10000) (hm : m < 100) (hd : d < 100) : numAt (fmtS y m d) 0 4 = y ∧ numAt (fmtS y m d) 5 2 = m ∧ numAt (fmtS y m d) 8 2 = d := by
  obtain ⟨h0, h1, h2, h3, h4, h5, h6, h7, h8, h9⟩ := fmt_bts y m d
  simp only [numAt, Nat.zero_add, Nat.add_zero, Nat.reduceAdd, h0, h1, h2, h3, h5, h6, h8, h9]
  refine ⟨?_, ?_, ?_⟩ <;> omega
theorem fmt_ofI {n y m d : Nat} (h : IsDate n y m d) : ofI (numAt (fmtS y m d) 0 4) (numAt (fmtS y m d) 5 2) (numAt (fmtS y m d) 8 2) = ((n : Int), 0) := by
  have hl : mlen y m ≤ 31 := by unfold mlen; have := mdays_pos (leap y) m; omega
  obtain ⟨e1, e2, e3⟩ := fmt_nums y m d (by have := h.y1; omega) (by have := h.m1; omega) (by have := h.d1; omega)
  rw [e1, e2, e3]
  exact ofI_date h
end Go.Proofs.YtdcmfncocehbhaaDoor
