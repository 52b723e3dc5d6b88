/- Merged: Plain15G. -/
import Derived.Test.YtfjfpefpdlecbaaGreatDoorQ44
import Derived.Test.YtfjfpefpdlecbaaGreatDoorQ37
import Derived.Test.YtfjfpefpdlecbaaGreatDoorQ43
namespace Go.Proofs.YtfjfpefpdlecbaaGreatDoor

section
open Go.RowKit Go.PlainAid
def tpM (m : MRule) (l : List Rec) (i j : Nat) : List (Int × Int) := (((l.take i).flatMap fun a => twosA m a l) ++ twosA m (l.getD i rec0) (l.take j)).foldl (insO ltP) []
theorem tp_zero (m : MRule) (l : List Rec) : tpM m l 0 0 = [] := by simp [tpM, twosA]
theorem tp_len (m : MRule) (l : List Rec) (h8 : l.length ≤ 8) (i j : Nat) (hi : i ≤ l.length) (hj : j ≤ l.length) : (tpM m l i j).length ≤ 100 := by
  have := cnt_le15 m l h8 i j hi hj
  unfold tpM
  unfold cntM at this
  rw [ins_fold_len, List.length_append]
  simp only [List.length_nil]
  omega
theorem twosA_list (m : MRule) (a : Rec) (l : List Rec) (k : Nat) (hk : k < l.length) : twosA m a (l.take (k + 1)) = twosA m a (l.take k) ++ if a.id < (l.getD k rec0).id ∧ m.need ≤ scoreM m a (l.getD k rec0) then [(a.id, (l.getD k rec0).id)] else [] := by
  have e : l.take (k + 1) = l.take k ++ [l.getD k rec0] := by
    rw [List.take_succ_eq_append_getElem hk, List.getD_eq_getElem?_getD, List.getElem?_eq_getElem hk]
    rfl
  unfold twosA
  rw [e, List.filter_append, List.map_append]
  congr 1
  generalize l.getD k rec0 = b
  by_cases h : a.id < b.id ∧ m.need ≤ scoreM m a b
  · rw [if_pos h]; simp [h.1, h.2]
  · rw [if_neg h]
    by_cases h1 : a.id < b.id
    · have h2 : ¬ m.need ≤ scoreM m a b := fun g => h ⟨h1, g⟩
      simp [h1, h2]
    · simp [h1]
theorem tp_step (m : MRule) (l : List Rec) (i j : Nat) (hj : j < l.length) : tpM m l i (j + 1) = if (l.getD i rec0).id < (l.getD j rec0).id ∧ m.need ≤ scoreM m (l.getD i rec0) (l.getD j rec0) then insO ltP (tpM m l i j) ((l.getD i rec0).id, (l.getD j rec0).id) else tpM m l i j := by
  unfold tpM
  rw [twosA_list m _ l j hj, ← List.append_assoc, List.foldl_append]
  split <;> rfl
theorem tp_next (m : MRule) (l : List Rec) (i : Nat) (hi : i < l.length) : tpM m l (i + 1) 0 = tpM m l i l.length := by
  have e : l.take (i + 1) = l.take i ++ [l.getD i rec0] := by
    rw [List.take_succ_eq_append_getElem hi, List.getD_eq_getElem?_getD, List.getElem?_eq_getElem hi]
    rfl
  unfold tpM
  rw [e, List.flatMap_append, List.take_length]
  simp [twosA]
theorem tp_end (m : MRule) (l : List Rec) : tpM m l l.length 0 = pairsM m l := by
  unfold tpM pairsM
  rw [List.take_length]
  simp [twosA, twosM]
theorem cellsPr_cons15 (p : Int × Int) (L : List (Int × Int)) : cellsPr (p :: L) = .int .i64 p.1 :: .int .i64 p.2 :: cellsPr L := by simp [cellsPr]
theorem cellsPr_len15 : ∀ L : List (Int × Int), (cellsPr L).length = L.length * 2
  | [] => rfl
  | p :: L => by
    rw [cellsPr_cons15, List.length_cons, List.length_cons, cellsPr_len15 L, List.length_cons]
    omega
theorem cellsPr_take15 : ∀ (L : List (Int × Int)) (k : Nat), (cellsPr L).take (k * 2) = cellsPr (L.take k)
  | [], k => by simp [cellsPr]
  | p :: L, 0 => by simp [cellsPr]
  | p :: L, k + 1 => by
    rw [cellsPr_cons15, show (k + 1) * 2 = k * 2 + 1 + 1 by omega, List.take_succ_cons, List.take_succ_cons, cellsPr_take15 L k, List.take_succ_cons, cellsPr_cons15]
theorem cellsPr_drop15 : ∀ (L : List (Int × Int)) (k : Nat), (cellsPr L).drop (k * 2) = cellsPr (L.drop k)
  | [], k => by simp [cellsPr]
  | p :: L, 0 => by simp
  | p :: L, k + 1 => by
    rw [cellsPr_cons15, show (k + 1) * 2 = k * 2 + 1 + 1 by omega, List.drop_succ_cons, List.drop_succ_cons, cellsPr_drop15 L k, List.drop_succ_cons]
theorem cellsPr_app15 (A B : List (Int × Int)) : cellsPr (A ++ B) = cellsPr A ++ cellsPr B := by simp [cellsPr]
theorem cellsPr_at15 : ∀ (L : List (Int × Int)) (j : Nat) (y : Int × Int), L[j]? = some y → (cellsPr L)[j * 2]? = some (.int .i64 y.1) ∧ (cellsPr L)[j * 2 + 1]? = some (.int .i64 y.2)
  | [], _, _, h => by simp at h
  | p :: L, 0, y, h => by
    obtain rfl : p = y := by simpa using h
    rw [cellsPr_cons15]
    exact ⟨rfl, rfl⟩
  | p :: L, j + 1, y, h => by
    have := cellsPr_at15 L j y (by simpa using h)
    rw [cellsPr_cons15, show (j + 1) * 2 = j * 2 + 1 + 1 by omega]
    simp only [List.getElem?_cons_succ]
    exact this
theorem cellsPr_one15 : ∀ (L : List (Int × Int)), ∀ u ∈ cellsPr L, u.oneCell' = true
  | [], u, h => by simp [cellsPr] at h
  | p :: L, u, h => by
    rw [cellsPr_cons15] at h
    rcases List.mem_cons.1 h with rfl | h
    · rfl
    rcases List.mem_cons.1 h with rfl | h
    · rfl
    exact cellsPr_one15 L u h
theorem ins_cells15 {lt : Int × Int → Int × Int → Bool} {S0 : List (Int × Int)} {x : Int × Int} {k : Nat} (hp : plcO lt S0 x = k) :
    ((cellsPr S0).take (k * 2) ++ [Value.int .i64 x.1, Value.int .i64 x.2]) ++ (cellsPr S0).drop (k * 2) = cellsPr (insO lt S0 x) := by
  unfold insO
  rw [hp, cellsPr_take15, cellsPr_drop15, cellsPr_app15, cellsPr_cons15]
  simp
end

end Go.Proofs.YtfjfpefpdlecbaaGreatDoor
