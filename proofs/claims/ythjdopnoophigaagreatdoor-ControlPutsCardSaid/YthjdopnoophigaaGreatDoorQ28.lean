/- Merged: PD12, PE12. -/
import Derived.Test.YthjdopnoophigaaGreatDoorQ18
import Derived.Deep.OwnRows
namespace Go.Proofs.YthjdopnoophigaaGreatDoor

section
open Go.RowKit Go.PlainAid
def joinE (L : List (List UInt8)) : Int := if L.length = 0 then 8 else if 4 < L.length then 4 else firstE12 L
theorem joinX_prog (L : List (List UInt8)) : joinX L = if joinE L ≠ 0 then ([], joinE L) else if 200 < (gluX dd L).length then ([], 4) else (gluX dd L, 0) := by
  unfold joinX joinE
  by_cases h0 : L.length = 0
  · rw [if_pos h0, if_pos h0]
    rfl
  · rw [if_neg h0, if_neg h0]
    by_cases h4 : 4 < L.length
    · rw [if_pos h4, if_pos h4]
      rfl
    · rw [if_neg h4, if_neg h4]
end

section
open Go.RowKit Go.PlainAid
/-! A row of texts in a block of its own, all its places in use. -/
structure RowS (w : World) (M : List (List UInt8)) (wr : World) : Prop where
  row : ∃ cur : Array Value, wr.heap[w.heap.size]? = some (.cells cur 9 (0, 0)) ∧ cur.toList = M.map strB
  bel : Below w.heap.size w wr
theorem RowS.fz {w wr : World} {M : List (List UInt8)} (h : RowS w M wr) (i : Nat) : wr.frozen? ⟨w.heap.size, i, none⟩ = false := by
  obtain ⟨cur, hr, _⟩ := h.row
  simp [World.frozen?, hr]
theorem RowS.lt {w wr : World} {M : List (List UInt8)} (h : RowS w M wr) : w.heap.size < wr.heap.size := by
  obtain ⟨cur, hr, _⟩ := h.row
  exact (Array.getElem?_eq_some_iff.1 hr).1
theorem RowS.cell {w wr : World} {M : List (List UInt8)} (h : RowS w M wr) (i : Nat) (hi : i < M.length) : wr.cell? ⟨w.heap.size, i, none⟩ = some (.string (S (M.getD i []))) := by
  obtain ⟨cur, hr, hc⟩ := h.row
  have h1 : cur[i]? = some (strB (M.getD i [])) := by
    rw [← Array.getElem?_toList, hc, List.getElem?_map, List.getD_eq_getElem?_getD, List.getElem?_eq_getElem hi]
    rfl
  simp only [World.cell?, hr]
  exact h1
theorem RowS.after {w wr w' : World} {M : List (List UInt8)} (h : RowS w M wr) (hb : Below wr.heap.size wr w') : RowS w M w' := by
  obtain ⟨cur, hr, hc⟩ := h.row
  exact ⟨⟨cur, (hb.block _ (Array.getElem?_eq_some_iff.1 hr).1).trans hr, hc⟩, h.bel.trans (hb.mono h.bel.size)⟩
theorem RowS.set {w wr : World} {M : List (List UInt8)} (h : RowS w M wr) (i : Nat) (x : List UInt8) : RowS w (M.set i x) (wr.setCell ⟨w.heap.size, i, none⟩ (.string (S x))) := by
  obtain ⟨cur, hr, hc⟩ := h.row
  refine ⟨⟨cur.setIfInBounds i (.string (S x)), ?_, ?_⟩, h.bel.setCell (p := ⟨w.heap.size, i, none⟩) (Nat.le_refl _) _⟩
  · simp [World.setCell, Array.getElem?_modify, hr]
  · rw [Array.toList_setIfInBounds, hc, List.map_set]
    rfl
theorem RowS.sr {w wr : World} {M : List (List UInt8)} {n : Nat} (h : RowS w M wr) (hl : M.length = n) (hn : n ≤ maxLen) : SR w.heap.size (.slice (some ⟨w.heap.size, 0, none⟩) n n) M wr := by
  obtain ⟨cur, hr, hc⟩ := h.row
  have hs : cur.size = n := by rw [← Array.length_toList, hc, List.length_map, hl]
  refine ⟨⟨by simp, .inr ⟨w.heap.size, n, cur, by rw [hl], Nat.le_refl _, hr, by omega, hn, by omega, ?_⟩⟩, fun h => by cases h⟩
  rw [hc, List.take_of_length_le (by simp)]
/-! What lies in the row of broader headings after k of them. -/
def abvK (P : List (List UInt8)) (m k : Nat) : List (List UInt8) := (List.range m).map fun j => if m ≤ j + k then gluX dd (P.take (m - j)) else []
theorem abvK_len (P : List (List UInt8)) (m k : Nat) : (abvK P m k).length = m := by simp [abvK]
theorem abvK_zero (P : List (List UInt8)) (m : Nat) : abvK P m 0 = List.replicate m [] := by
  apply List.ext_getElem
  · simp [abvK]
  · intro i h1 h2
    have hi : i < m := by simpa [abvK] using h1
    have hn : ¬ m ≤ i := by omega
    simp [abvK, hn]
theorem abvK_all (P : List (List UInt8)) (m : Nat) (h : P.length = m + 1) : abvK P m m = aboveL P := by
  unfold abvK aboveL
  rw [h, Nat.add_sub_cancel]
  refine List.map_congr_left fun j _ => ?_
  rw [if_pos (by omega)]
theorem abvK_set (P : List (List UInt8)) (m k q : Nat) (hq : q + k + 1 = m) : (abvK P m k).set q (gluX dd (P.take (k + 1))) = abvK P m (k + 1) := by
  apply List.ext_getElem
  · simp [abvK]
  · intro i h1 h2
    have hi : i < m := by simpa [abvK] using h2
    rw [List.getElem_set]
    by_cases e : q = i
    · subst e
      have hm : m - q = k + 1 := by omega
      have hm2 : m ≤ q + (k + 1) := by omega
      simp [abvK, hm, hm2]
    · rw [if_neg e]
      have hm : (m ≤ i + k) ↔ (m ≤ i + (k + 1)) := by omega
      simp [abvK, hm]
theorem glu_step (P : List (List UInt8)) : ∀ d k, k + d ≤ P.length → ∃ r, gluX dd (P.take (k + d)) = gluX dd (P.take k) ++ r
  | 0, k, _ => ⟨[], by simp⟩
  | d + 1, k, h => by
    obtain ⟨r, hr⟩ := glu_step P d k (by omega)
    rw [← Nat.add_assoc, glu_take dd P (k + d) (by omega), hr]
    by_cases e : k + d = 0
    · rw [if_pos e]
      exact ⟨_, List.append_assoc _ _ _⟩
    · rw [if_neg e]
      exact ⟨r ++ dd ++ P.getD (k + d) [], by simp only [List.append_assoc]⟩
theorem glu_begin (P : List (List UInt8)) (k : Nat) (h : k ≤ P.length) : (gluX dd P).take (gluX dd (P.take k)).length = gluX dd (P.take k) ∧ (gluX dd (P.take k)).length ≤ (gluX dd P).length := by
  obtain ⟨r, hr⟩ := glu_step P (P.length - k) k (by omega)
  rw [show k + (P.length - k) = P.length by omega, List.take_length] at hr
  rw [hr]
  refine ⟨List.take_left, ?_⟩
  rw [List.length_append]
  omega
theorem glu_first (P : List (List UInt8)) (h : 0 < P.length) : (gluX dd (P.take 1)).length = (P.getD 0 []).length := by
  rw [show 1 = 0 + 1 from rfl, glu_take dd P 0 h, if_pos rfl]
  rfl
theorem glu_next (P : List (List UInt8)) (k : Nat) (h : k + 1 < P.length) : (gluX dd (P.take (k + 2))).length = (gluX dd (P.take (k + 1))).length + (2 + (P.getD (k + 1) []).length) := by
  rw [glu_take dd P (k + 1) h, if_neg (by omega), List.length_append, List.length_append]
  show _ + 2 + _ = _
  omega
end

end Go.Proofs.YthjdopnoophigaaGreatDoor
