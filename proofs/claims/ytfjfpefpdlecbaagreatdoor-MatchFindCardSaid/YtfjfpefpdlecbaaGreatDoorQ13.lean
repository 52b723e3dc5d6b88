/- Merged: R12A, RBlank, RClean, R12B. -/
import Derived.Test.YtfjfpefpdlecbaaGreatDoorQ12
import Derived.Test.YtfjfpefpdlecbaaGreatDoorQ03
import Derived.Test.YtfjfpefpdlecbaaGreatDoorQ04
import Derived.Test.YtfjfpefpdlecbaaGreatDoorQ08
import Derived.Test.YtfjfpefpdlecbaaGreatDoorQ09
import Derived.Test.YtfjfpefpdlecbaaGreatDoorQ10
import Derived.Test.YtfjfpefpdlecbaaGreatDoorQ06
import Derived.RegionTactic
import Derived.BigRegion
import Derived.Deep.RegionLaw
import Derived.Deep.Cut
import Derived.Deep.CutRange
namespace Go.Proofs.YtfjfpefpdlecbaaGreatDoor

section
open Go.RowKit Go.PlainAid
theorem S_eq12 (a b : List UInt8) : ((S a).toList == (S b).toList) = decide (a = b) := by
  rw [ByteArray.toList_eq, ByteArray.toList_eq]
  show (a == b) = _
  by_cases h : a = b
  · simp [h]
  · simp [h]
theorem sr_form {B : Nat} {v : Value} {L : List (List UInt8)} {w : World} (h : SR B v L w) : ∃ g cap, v = .slice (some ⟨g, 0, none⟩) L.length cap := by
  obtain ⟨g, cap, rfl, _⟩ := h.open
  exact ⟨g, cap, rfl⟩
theorem cells_one12 (w : World) (x : Value) (t : TypeId) : ∀ j u, [x][j]? = some u → (w.alloc (.cells #[x] t)).cell? ((⟨w.heap.size, 0, none⟩ : Addr).add j) = some u := by
  intro j u hj
  match j, hj with
  | 0, hj => simp at hj; subst hj; simp [Addr.add]
/-- append of one text that has just been laid to a row of one's own. -/
theorem append_sr {ops : Array Oper} {rest : List Oper} {o : Oper} {a : Act} {Q : Exit → Act → World → Prop} (w : World) (hgd : o.guard = none) (s x : Operand)
    (ho : o.op = .call { callee := .builtin .append, args := #[s, x], argTypes := #[36, 36] })
    (B : Nat) (v : Value) (L : List (List UInt8)) (y : List UInt8) (hs : a.eval s = v) (h : SR B v L w) (hx : a.eval x = .slice (some ⟨w.heap.size, 0, none⟩) 1 1) (hz : L.length ≤ 10000000) (hB : B ≤ w.heap.size)
    (N : Nat) (W1 : World) (hNB : N ≤ B) (hb : Below N W1 w)
    (hk : ∀ v' w', SR B v' (L ++ [y]) w' → Below N W1 w' → B ≤ w'.heap.size → wpList Tryz.prog ops Q rest (a.put o.dst v') w') : wpList Tryz.prog ops Q (o :: rest) a (w.alloc (.cells #[strB y] 9)) := by
  obtain ⟨i0, hi, hz0, hz1, hz2⟩ := info_string
  have hrow := h.row.alloc (.cells #[strB y] 9)
  refine wpList_append_own _ hgd s x 36 ho B 9 i0 (.string ⟨#[]⟩) 1 16 Tryz.underlying36 hi hz0 hz1 hz2 rfl (by decide) v L.length _ hs hrow ⟨w.heap.size, 0, none⟩ 1 1 [strB y] hx rfl (cells_one12 _ _ _) (by intro u hu; simp at hu; subst hu; rfl) (by unfold maxLen; omega) (by omega) (by simp; omega) ?_
  intro v2 w2 hown2 hg2 hn2
  refine hk v2 w2 ⟨by rw [List.length_append, List.map_append]; exact hown2, fun e => by have := (hn2.1 e).2; omega⟩ ?_ (Nat.le_trans (by simp; omega) hg2.size)
  exact (hb.alloc (by omega) _).grown hg2 (by simp; omega) (fun j hj => Nat.le_trans hNB (hrow.lt j hj).1)
theorem pre_take (sep : List UInt8) : ∀ (t : List UInt8), sep.isPrefixOf t = decide (t.take sep.length = sep) := by
  intro t
  cases e : sep.isPrefixOf t with
  | true =>
    obtain ⟨r, rfl⟩ := List.isPrefixOf_iff_prefix.1 e
    rw [List.take_left]
    exact (decide_eq_true rfl).symm
  | false =>
    refine (decide_eq_false (fun g => ?_)).symm
    have : sep.isPrefixOf t = true := List.isPrefixOf_iff_prefix.2 ⟨t.drop sep.length, by
      conv => lhs; lhs; rw [← g]
      exact List.take_append_drop _ _⟩
    rw [this] at e
    cases e
theorem piece_snoc (l : List UInt8) (f k : Nat) (hf : f ≤ k) (hk : k < l.length) : (l.take (k + 1)).drop f = (l.take k).drop f ++ [l.getD k 0] := by
  rw [List.take_succ_eq_append_getElem hk, List.drop_append_of_le_length (by rw [List.length_take]; omega), List.getD_eq_getElem?_getD, List.getElem?_eq_getElem hk]
  rfl
theorem drop_cons12 (l : List UInt8) (i : Nat) (h : i < l.length) : l.drop i = l.getD i 0 :: l.drop (i + 1) := by
  rw [List.getD_eq_getElem?_getD, List.getElem?_eq_getElem h]
  exact List.drop_eq_getElem_cons h

theorem glu_take (sep : List UInt8) (L : List (List UInt8)) (k : Nat) (h : k < L.length) : gluX sep (L.take (k + 1)) = (if k = 0 then gluX sep (L.take k) else gluX sep (L.take k) ++ sep) ++ L.getD k [] := by
  rw [List.take_succ_eq_append_getElem h, glu_snoc, List.getD_eq_getElem?_getD, List.getElem?_eq_getElem h]
  by_cases hk : k = 0
  · subst hk
    rw [if_pos (by rw [List.take_zero]), if_pos rfl, List.take_zero]
    rfl
  · rw [if_neg (by intro e; have := congrArg List.length e; rw [List.length_take, List.length_nil] at this; omega), if_neg hk]
    rfl
theorem glu_le (sep : List UInt8) (m : Nat) (hs : sep.length ≤ 100) : ∀ (L : List (List UInt8)), (∀ x ∈ L, x.length ≤ m) → (gluX sep L).length ≤ (m + 100) * L.length
  | [], _ => by simp [gluX]
  | [x], h => by
    have := h x (by simp)
    show x.length ≤ _
    simp
    omega
  | x :: y :: r, h => by
    have h0 := h x (by simp)
    have ih := glu_le sep m hs (y :: r) (fun z hz => h z (by simp [hz]))
    show (x ++ sep ++ gluX sep (y :: r)).length ≤ _
    rw [List.length_append, List.length_append, List.length_cons (a := x), Nat.mul_add]
    omega
end

section
open Go.RowKit

end

section
open Go.RowKit

end

section
open Go.RowKit Go.PlainAid
theorem BL.at12 {v : Value} {L : List (List UInt8)} {w : World} (h : BL v L w) (k : Nat) (hk : k < L.length) : ∃ g o cap, v = .slice (some ⟨g, o, none⟩) L.length cap ∧ g < w.heap.size ∧ w.cell? ⟨g, o + k, none⟩ = some (.string (S (L.getD k []))) := by
  obtain ⟨a, cap, rfl, _, _, _, hx⟩ := h
  obtain ⟨g, o, rfl, h1, h2⟩ := hx k hk
  exact ⟨g, o, cap, rfl, h1, h2⟩
theorem SR.mono {B B' : Nat} {v : Value} {L : List (List UInt8)} {w : World} (h : SR B' v L w) (hB : B ≤ B') : SR B v L w := by
  refine ⟨⟨h.row.1, ?_⟩, h.nn⟩
  rcases h.row.2 with hn | ⟨g, cap, cur, hv, hB', rest⟩
  · exact .inl hn
  · exact .inr ⟨g, cap, cur, hv, Nat.le_trans hB hB', rest⟩
theorem nonE_snoc (L : List (List UInt8)) (x : List UInt8) : nonE (L ++ [x]) = if x = [] then nonE L else nonE L ++ [x] := by
  unfold nonE
  rw [List.filter_append]
  by_cases h : x = []
  · rw [if_pos h]; simp [h]
  · rw [if_neg h]; simp [h]
theorem map_take_snoc (f : List UInt8 → List UInt8) (L : List (List UInt8)) (k : Nat) (h : k < L.length) : (L.take (k + 1)).map f = (L.take k).map f ++ [f (L.getD k [])] := by
  rw [List.take_succ_eq_append_getElem h, List.map_append, List.getD_eq_getElem?_getD, List.getElem?_eq_getElem h]
  rfl
theorem nonE_le (L : List (List UInt8)) : (nonE L).length ≤ L.length := List.length_filter_le _ _
theorem mem_getD12 (L : List (List UInt8)) (k : Nat) (h : k < L.length) : L.getD k [] ∈ L := by
  rw [List.getD_eq_getElem?_getD, List.getElem?_eq_getElem h]
  exact List.getElem_mem h
theorem spl_len (sep : List UInt8) : ∀ (n : Nat) (l : List UInt8), l.length ≤ n → (splG sep l).length ≤ l.length + 1
  | _, [], _ => by rw [spl_nil]; simp
  | 0, c :: t, h => by simp at h
  | n + 1, c :: t, h => by
    by_cases h0 : sep ≠ [] ∧ sep.isPrefixOf (c :: t) = true
    · have hp := List.length_pos_iff.2 h0.1
      have := spl_len sep n ((c :: t).drop sep.length) (by rw [List.length_drop]; omega)
      rw [spl_hit sep _ h0.1 h0.2]
      rw [List.length_drop] at this
      simp only [List.length_cons] at this ⊢
      omega
    · have ih := spl_len sep n t (by simpa using h)
      rw [splG, dif_neg h0]
      cases e : splG sep t with
      | nil => simp [addH]
      | cons p r =>
        rw [e] at ih
        simp only [addH, List.length_cons] at ih ⊢
        omega
theorem spl_mem (sep : List UInt8) : ∀ (n : Nat) (l : List UInt8), l.length ≤ n → ∀ x ∈ splG sep l, x.length ≤ l.length
  | _, [], _ => by
    rw [spl_nil]
    intro x hx
    rw [List.mem_singleton.1 hx]
    exact Nat.le_refl _
  | 0, c :: t, h => by simp at h
  | n + 1, c :: t, h => by
    by_cases h0 : sep ≠ [] ∧ sep.isPrefixOf (c :: t) = true
    · have hp := List.length_pos_iff.2 h0.1
      have ih := spl_mem sep n ((c :: t).drop sep.length) (by rw [List.length_drop]; omega)
      rw [spl_hit sep _ h0.1 h0.2]
      intro x hx
      rcases List.mem_cons.1 hx with rfl | hx
      · exact Nat.zero_le _
      · have := ih x hx
        rw [List.length_drop] at this
        omega
    · have ih := spl_mem sep n t (by simpa using h)
      rw [splG, dif_neg h0]
      intro x hx
      cases e : splG sep t with
      | nil =>
        rw [e] at hx
        rw [List.mem_singleton.1 hx]
        simp
      | cons p r =>
        rw [e] at hx ih
        rcases List.mem_cons.1 hx with rfl | hx
        · have := ih p (by simp)
          simp only [List.length_append, List.length_cons, List.length_nil]
          omega
        · have := ih x (by simp [hx])
          simp only [List.length_cons]
          omega
end

end Go.Proofs.YtfjfpefpdlecbaaGreatDoor
