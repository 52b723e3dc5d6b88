/- Merged: R11A, R11B, R11C. -/
import Derived.Test.YtnfallkeicehiaaDoorQ10
import Derived.Deep.CutBlock
import Derived.Deep.DeepCutAuto
namespace Go.Proofs.YtnfallkeicehiaaDoor

section
open Go.RowKit Go.PlainAid
theorem ln_hit (l : List UInt8) (k : Nat) (hk : k < l.length) (h : l.getD k 0 = 10) : lnL (l.drop k) = [] ∧ lnE (l.drop k) = true ∧ lnR (l.drop k) = l.drop (k + 1) := by
  rw [List.getD_eq_getElem?_getD, List.getElem?_eq_getElem hk] at h
  have h : l[k] = 10 := h
  rw [List.drop_eq_getElem_cons hk, lnL, lnE, lnR, if_pos h, if_pos h, if_pos h]
  exact ⟨rfl, rfl, rfl⟩
theorem ln_pass (l : List UInt8) (k : Nat) (hk : k < l.length) (h : l.getD k 0 ≠ 10) : lnL (l.drop k) = l.getD k 0 :: lnL (l.drop (k + 1)) ∧ lnE (l.drop k) = lnE (l.drop (k + 1)) ∧ lnR (l.drop k) = lnR (l.drop (k + 1)) := by
  rw [List.getD_eq_getElem?_getD, List.getElem?_eq_getElem hk] at h ⊢
  have h : ¬ l[k] = 10 := h
  rw [List.drop_eq_getElem_cons hk, lnL, lnE, lnR, if_neg h, if_neg h, if_neg h]
  exact ⟨rfl, rfl, rfl⟩
/-- Up to k there is no line feed from i on. -/
def LnAt (l : List UInt8) (i k : Nat) : Prop := i ≤ k ∧ lnL (l.drop i) = (l.take k).drop i ++ lnL (l.drop k) ∧ lnE (l.drop i) = lnE (l.drop k) ∧ lnR (l.drop i) = lnR (l.drop k)
theorem LnAt.first (l : List UInt8) (i : Nat) : LnAt l i i := ⟨Nat.le_refl _, by rw [List.drop_take, Nat.sub_self, List.take_zero, List.nil_append], rfl, rfl⟩
theorem LnAt.next {l : List UInt8} {i k : Nat} (h : LnAt l i k) (hk : k < l.length) (hc : l.getD k 0 ≠ 10) : LnAt l i (k + 1) := by
  obtain ⟨h0, h1, h2, h3⟩ := h
  obtain ⟨p1, p2, p3⟩ := ln_pass l k hk hc
  refine ⟨by omega, ?_, by rw [h2, p2], by rw [h3, p3]⟩
  rw [h1, p1, take_byte l k hk, List.drop_append_of_le_length (by rw [List.length_take]; omega), List.append_assoc]
  rfl
theorem LnAt.hit {l : List UInt8} {i k : Nat} (h : LnAt l i k) (hk : k < l.length) (hc : l.getD k 0 = 10) : lnL (l.drop i) = (l.take k).drop i ∧ lnE (l.drop i) = true ∧ lnR (l.drop i) = l.drop (k + 1) := by
  obtain ⟨h0, h1, h2, h3⟩ := h
  obtain ⟨p1, p2, p3⟩ := ln_hit l k hk hc
  rw [h1, h2, h3, p1, p2, p3, List.append_nil]
  exact ⟨rfl, rfl, rfl⟩
theorem LnAt.miss {l : List UInt8} {i : Nat} (h : LnAt l i l.length) : lnL (l.drop i) = l.drop i ∧ lnE (l.drop i) = false ∧ lnR (l.drop i) = [] := by
  obtain ⟨h0, h1, h2, h3⟩ := h
  rw [h1, h2, h3, List.drop_length, List.take_length]
  exact ⟨List.append_nil _, rfl, rfl⟩
end

section
open Go.RowKit Go.PlainAid
theorem dgt_u8 (r : Nat) (h : r ≤ 9) : u8V (dgt r) = .int .u8 (48 + (r : Int)) := by
  unfold u8V
  rw [dgt_nat r h]
  rfl
end

section
open Go.RowKit Go.PlainAid
theorem digN_int (x : UInt8) : digB x = (!(decide ((x.toNat : Int) < 48)) && !(decide ((57 : Int) < (x.toNat : Int)))) := by
  unfold digB
  rw [← decide_not, ← decide_not]
  congr 1
  · rw [decide_eq_decide]; omega
  · rw [decide_eq_decide]; omega
theorem allN_iff : ∀ (l : List UInt8), l.all digB = true ↔ ∀ i, i < l.length → digB (l.getD i 0) = true := by
  intro l
  rw [List.all_eq_true]
  constructor
  · intro h i hi
    rw [List.getD_eq_getElem?_getD, List.getElem?_eq_getElem hi]
    exact h _ (List.getElem_mem _)
  · intro h x hx
    obtain ⟨i, hi, rfl⟩ := List.mem_iff_getElem.1 hx
    have := h i hi
    rwa [List.getD_eq_getElem?_getD, List.getElem?_eq_getElem hi] at this
theorem valN_take (l : List UInt8) (k : Nat) (h : k < l.length) : valV (l.take (k + 1)) = 10 * valV (l.take k) + ((l.getD k 0).toNat - 48) := by
  rw [take_byte l k h, valV_snoc]
theorem valN_lt : ∀ (k : Nat) (l : List UInt8), (∀ j, j < k → digB (l.getD j 0) = true) → k ≤ l.length → valV (l.take k) < 10 ^ k
  | 0, l, _, _ => by simp [valV]
  | k + 1, l, h, hk => by
    have := valN_lt k l (fun j hj => h j (by omega)) (by omega)
    have hd := (digB_iff _).1 (h k (by omega))
    rw [valN_take l k (by omega), Nat.pow_succ]
    omega
theorem allN_bad (l : List UInt8) (k : Nat) (hk : k < l.length) (h : digB (l.getD k 0) = false) : l.all digB = false := by
  cases e : l.all digB
  · rfl
  · rw [(allN_iff l).1 e k hk] at h
    cases h
def numV (l : List UInt8) : Nat × Bool := match numO l with
  | some n => (n, true)
  | none => (0, false)
end

end Go.Proofs.YtnfallkeicehiaaDoor
