/- Merged: R07J, RDigits, Plain07B. -/
import Derived.Test.YtceneblmllpdnaaDoorQ11
import Derived.Test.YtceneblmllpdnaaDoorQ01
import Derived.Lib.ItoaNum
import Derived.Lib.Itoa
import Derived.Test.YtceneblmllpdnaaDoorQ06
namespace Go.Proofs.YtceneblmllpdnaaDoor

section
open Go.RowKit Go.PlainAid
def markB (c : UInt8) : List UInt8 := if c = 32 then [35] else [c]
end

section
open Go.RowKit
theorem dec1 (n : Nat) (h : n < 10) : Lib.decDigits n = [dgt n] := by rw [Lib.decDigits, dif_pos h]; rfl
theorem decS (n : Nat) (h : ¬ n < 10) : Lib.decDigits n = Lib.decDigits (n / 10) ++ [dgt (n % 10)] := by rw [Lib.decDigits, dif_neg h]; rfl
theorem dec_pos (n : Nat) : 0 < (Lib.decDigits n).length := by
  by_cases h : n < 10
  · rw [dec1 n h]; exact Nat.one_pos
  · rw [decS n h]; simp
theorem dec_bound : ∀ n, (Lib.decDigits n).length ≤ n + 1 := by
  intro n
  induction n using Nat.strongRecOn with
  | ind n ih =>
    by_cases h : n < 10
    · rw [dec1 n h]; simp
    · rw [decS n h]
      have := ih (n / 10) (by omega)
      simp
      omega
/-- Zeros in front, up to a width. -/
def padL (k : Nat) (l : List UInt8) : List UInt8 := List.replicate (k - l.length) 48 ++ l

theorem digit_at : ∀ r, r < 10 → (ByteArray.mk #[48, 49, 50, 51, 52, 53, 54, 55, 56, 57]).extract r (r + 1) = S [dgt r] := by decide +kernel
def strL : Value → Nat
  | .string s => s.size
  | _ => 0
def strZ : Value → Nat
  | .string s => if s.size = 0 then 1 else 0
  | _ => 0
end

section
theorem take_byte (l : List UInt8) (k : Nat) (h : k < l.length) : l.take (k + 1) = l.take k ++ [l.getD k 0] := by
  rw [List.take_succ_eq_append_getElem h, List.getD_eq_getElem?_getD, List.getElem?_eq_getElem h]
  rfl
/-- A value with each dollar twice. -/
def dblL : List UInt8 → List UInt8
  | [] => []
  | x :: t => if x = 36 then 36 :: 36 :: dblL t else x :: dblL t
theorem dblL_append : ∀ (a b : List UInt8), dblL (a ++ b) = dblL a ++ dblL b
  | [], b => rfl
  | x :: t, b => by
    rw [List.cons_append, dblL, dblL, dblL_append t b]
    split <;> rfl
theorem dblL_le : ∀ (a : List UInt8), (dblL a).length ≤ 2 * a.length
  | [] => Nat.le_refl _
  | x :: t => by
    have := dblL_le t
    rw [dblL]
    split <;> simp <;> omega
theorem dblL_snoc (l : List UInt8) (k : Nat) (h : k < l.length) : dblL (l.take (k + 1)) = dblL (l.take k) ++ (if l.getD k 0 = 36 then [36, 36] else [l.getD k 0]) := by
  rw [List.take_succ_eq_append_getElem h, List.getD_eq_getElem?_getD, List.getElem?_eq_getElem h, dblL_append]
  congr 1
def subP (s : Sub) : List UInt8 := 36 :: s.1 :: dblL s.2
def bodyL (L : List Sub) : List UInt8 := L.flatMap subP
theorem bodyL_snoc (L : List Sub) (k : Nat) (h : k < L.length) : bodyL (L.take (k + 1)) = bodyL (L.take k) ++ subP (L.getD k sub0) := by
  rw [List.take_succ_eq_append_getElem h, List.getD_eq_getElem?_getD, List.getElem?_eq_getElem h]
  unfold bodyL
  rw [List.flatMap_append]
  simp
def authP (n : Int) : List UInt8 := if n = 0 then [] else 64 :: padL 1 (Lib.decDigits n.toNat)
def headL (f : Fld) : List UInt8 := f.tag ++ authP f.auth ++ 32 :: (markB (f.ind.getD 0 0) ++ markB (f.ind.getD 1 0) ++ [32])
def lineL (f : Fld) : List UInt8 := headL f ++ bodyL f.subs
/-- What Print returns: the line, or the error. -/
def printR (f : Fld) : List UInt8 × Int := if rightI f = 0 then (lineL f, 0) else ([], rightI f)

theorem firstE_zero : ∀ (L : List Sub), firstE L = 0 → ∀ i, i < L.length → subE (L.getD i sub0) = 0
  | [], _, i, hi => by cases hi
  | s :: t, h, i, hi => by
    rw [firstE] at h
    by_cases h0 : subE s ≠ 0
    · rw [if_pos h0] at h
      exact absurd h h0
    · rw [if_neg h0] at h
      match i, hi with
      | 0, _ => exact Decidable.not_not.1 h0
      | i + 1, hi => exact firstE_zero t h i (by simpa using hi)
theorem subE_zero (s : Sub) (h : subE s = 0) : codeB s.1 = true ∧ s.2 ≠ [] ∧ validT s.2 = true ∧ s.2.length ≤ 200 := by
  unfold subE at h
  cases hc : codeB s.1
  · rw [if_pos hc] at h; cases h
  · rw [if_neg (by rw [hc]; intro h; cases h)] at h
    by_cases h1 : s.2 = []
    · rw [if_pos h1] at h; cases h
    · rw [if_neg h1] at h
      cases hv : validT s.2
      · rw [if_pos hv] at h; cases h
      · rw [if_neg (by rw [hv]; intro h; cases h)] at h
        by_cases h2 : 200 < s.2.length
        · rw [if_pos h2] at h; cases h
        · exact ⟨rfl, h1, rfl, by omega⟩
theorem right_facts (f : Fld) (h : rightI f = 0) : tagB f.tag = true ∧ indsB f.ind = true ∧ 0 < f.subs.length ∧ f.subs.length ≤ 16 ∧ (∀ i, i < f.subs.length → subE (f.subs.getD i sub0) = 0) ∧ 0 ≤ f.auth ∧ f.auth ≤ 9999 := by
  unfold rightI at h
  cases ht : tagB f.tag
  · rw [if_pos ht] at h; cases h
  rw [if_neg (by rw [ht]; intro h; cases h)] at h
  cases hi : indsB f.ind
  · rw [if_pos hi] at h; cases h
  rw [if_neg (by rw [hi]; intro h; cases h)] at h
  by_cases h0 : f.subs.length = 0
  · rw [if_pos h0] at h; cases h
  rw [if_neg h0] at h
  by_cases h16 : 16 < f.subs.length
  · rw [if_pos h16] at h; cases h
  rw [if_neg h16] at h
  by_cases hf : firstE f.subs ≠ 0
  · rw [if_pos hf] at h
    exact absurd h hf
  rw [if_neg hf] at h
  by_cases ha : f.auth < 0 ∨ 9999 < f.auth
  · rw [if_pos ha] at h; cases h
  exact ⟨rfl, rfl, by omega, by omega, firstE_zero _ (Decidable.not_not.1 hf), by omega, by omega⟩
theorem tagB_len (l : List UInt8) (h : tagB l = true) : l.length = 3 := by
  unfold tagB at h
  simp at h
  omega
theorem indsB_len (l : List UInt8) (h : indsB l = true) : l.length = 2 := by
  unfold indsB at h
  simp at h
  omega
theorem bodyL_le : ∀ (L : List Sub), (∀ i, i < L.length → (L.getD i sub0).2.length ≤ 200) → (bodyL L).length ≤ 402 * L.length
  | [], _ => Nat.le_refl _
  | s :: t, h => by
    have h0 := h 0 (by simp)
    have h1 := bodyL_le t (fun i hi => h (i + 1) (by simpa using hi))
    have h2 := dblL_le s.2
    change s.2.length ≤ 200 at h0
    have e : bodyL (s :: t) = subP s ++ bodyL t := by simp [bodyL]
    rw [e, List.length_append, List.length_cons]
    unfold subP
    rw [List.length_cons, List.length_cons]
    omega
end

end Go.Proofs.YtceneblmllpdnaaDoor
