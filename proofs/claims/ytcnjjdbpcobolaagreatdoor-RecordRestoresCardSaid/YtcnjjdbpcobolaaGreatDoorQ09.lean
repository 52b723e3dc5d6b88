/- Merged: RDigits, Plain07B, Plain07C. -/
import Derived.Test.YtcnjjdbpcobolaaGreatDoorQ01
import Derived.Lib.ItoaNum
import Derived.Lib.Itoa
import Derived.Test.YtcnjjdbpcobolaaGreatDoorQ05
import Derived.Test.YtcnjjdbpcobolaaGreatDoorQ08
namespace Go.Proofs.YtcnjjdbpcobolaaGreatDoor

section
open Go.RowKit
theorem dec1 (n : Nat) (h : n < 10) : Lib.decDigits n = [dgt n] := by rw [Lib.decDigits, dif_pos h]; rfl
theorem decS (n : Nat) (h : ¬ n < 10) : Lib.decDigits n = Lib.decDigits (n / 10) ++ [dgt (n % 10)] := by rw [Lib.decDigits, dif_neg h]; rfl
theorem dec_pos (n : Nat) : 0 < (Lib.decDigits n).length := by
  by_cases h : n < 10
  · rw [dec1 n h]; exact Nat.one_pos
  · rw [decS n h]; simp
theorem dec_bound : ∀ n, (Lib.decDigits n).length ≤ n + 1 := by
  intro n
  induction n using Nat.strongRecOn with
  | ind n ih =>
    by_cases h : n < 10
    · rw [dec1 n h]; simp
    · rw [decS n h]
      have := ih (n / 10) (by omega)
      simp
      omega
/-- Zeros in front, up to a width. -/
def padL (k : Nat) (l : List UInt8) : List UInt8 := List.replicate (k - l.length) 48 ++ l

theorem digit_at : ∀ r, r < 10 → (ByteArray.mk #[48, 49, 50, 51, 52, 53, 54, 55, 56, 57]).extract r (r + 1) = S [dgt r] := by decide +kernel
def strL : Value → Nat
  | .string s => s.size
  | _ => 0
def strZ : Value → Nat
  | .string s => if s.size = 0 then 1 else 0
  | _ => 0
end

section
theorem take_byte (l : List UInt8) (k : Nat) (h : k < l.length) : l.take (k + 1) = l.take k ++ [l.getD k 0] := by
  rw [List.take_succ_eq_append_getElem h, List.getD_eq_getElem?_getD, List.getElem?_eq_getElem h]
  rfl
/-- A value with each dollar twice. -/
def dblL : List UInt8 → List UInt8
  | [] => []
  | x :: t => if x = 36 then 36 :: 36 :: dblL t else x :: dblL t
theorem dblL_append : ∀ (a b : List UInt8), dblL (a ++ b) = dblL a ++ dblL b
  | [], b => rfl
  | x :: t, b => by
    rw [List.cons_append, dblL, dblL, dblL_append t b]
    split <;> rfl
theorem dblL_le : ∀ (a : List UInt8), (dblL a).length ≤ 2 * a.length
  | [] => Nat.le_refl _
  | x :: t => by
    have := dblL_le t
    rw [dblL]
    split <;> simp <;> omega
theorem dblL_snoc (l : List UInt8) (k : Nat) (h : k < l.length) : dblL (l.take (k + 1)) = dblL (l.take k) ++ (if l.getD k 0 = 36 then [36, 36] else [l.getD k 0]) := by
  rw [List.take_succ_eq_append_getElem h, List.getD_eq_getElem?_getD, List.getElem?_eq_getElem h, dblL_append]
  congr 1
def subP (s : Sub) : List UInt8 := 36 :: s.1 :: dblL s.2
def bodyL (L : List Sub) : List UInt8 := L.flatMap subP
theorem bodyL_snoc (L : List Sub) (k : Nat) (h : k < L.length) : bodyL (L.take (k + 1)) = bodyL (L.take k) ++ subP (L.getD k sub0) := by
  rw [List.take_succ_eq_append_getElem h, List.getD_eq_getElem?_getD, List.getElem?_eq_getElem h]
  unfold bodyL
  rw [List.flatMap_append]
  simp
def authP (n : Int) : List UInt8 := if n = 0 then [] else 64 :: padL 1 (Lib.decDigits n.toNat)
def headL (f : Fld) : List UInt8 := f.tag ++ authP f.auth ++ 32 :: (markB (f.ind.getD 0 0) ++ markB (f.ind.getD 1 0) ++ [32])
def lineL (f : Fld) : List UInt8 := headL f ++ bodyL f.subs
/-- What Print returns: the line, or the error. -/
def printR (f : Fld) : List UInt8 × Int := if rightI f = 0 then (lineL f, 0) else ([], rightI f)

theorem firstE_zero : ∀ (L : List Sub), firstE L = 0 → ∀ i, i < L.length → subE (L.getD i sub0) = 0
  | [], _, i, hi => by cases hi
  | s :: t, h, i, hi => by
    rw [firstE] at h
    by_cases h0 : subE s ≠ 0
    · rw [if_pos h0] at h
      exact absurd h h0
    · rw [if_neg h0] at h
      match i, hi with
      | 0, _ => exact Decidable.not_not.1 h0
      | i + 1, hi => exact firstE_zero t h i (by simpa using hi)
theorem subE_zero (s : Sub) (h : subE s = 0) : codeB s.1 = true ∧ s.2 ≠ [] ∧ validT s.2 = true ∧ s.2.length ≤ 200 := by
  unfold subE at h
  cases hc : codeB s.1
  · rw [if_pos hc] at h; cases h
  · rw [if_neg (by rw [hc]; intro h; cases h)] at h
    by_cases h1 : s.2 = []
    · rw [if_pos h1] at h; cases h
    · rw [if_neg h1] at h
      cases hv : validT s.2
      · rw [if_pos hv] at h; cases h
      · rw [if_neg (by rw [hv]; intro h; cases h)] at h
        by_cases h2 : 200 < s.2.length
        · rw [if_pos h2] at h; cases h
        · exact ⟨rfl, h1, rfl, by omega⟩
theorem right_facts (f : Fld) (h : rightI f = 0) : tagB f.tag = true ∧ indsB f.ind = true ∧ 0 < f.subs.length ∧ f.subs.length ≤ 16 ∧ (∀ i, i < f.subs.length → subE (f.subs.getD i sub0) = 0) ∧ 0 ≤ f.auth ∧ f.auth ≤ 9999 := by
  unfold rightI at h
  cases ht : tagB f.tag
  · rw [if_pos ht] at h; cases h
  rw [if_neg (by rw [ht]; intro h; cases h)] at h
  cases hi : indsB f.ind
  · rw [if_pos hi] at h; cases h
  rw [if_neg (by rw [hi]; intro h; cases h)] at h
  by_cases h0 : f.subs.length = 0
  · rw [if_pos h0] at h; cases h
  rw [if_neg h0] at h
  by_cases h16 : 16 < f.subs.length
  · rw [if_pos h16] at h; cases h
  rw [if_neg h16] at h
  by_cases hf : firstE f.subs ≠ 0
  · rw [if_pos hf] at h
    exact absurd h hf
  rw [if_neg hf] at h
  by_cases ha : f.auth < 0 ∨ 9999 < f.auth
  · rw [if_pos ha] at h; cases h
  exact ⟨rfl, rfl, by omega, by omega, firstE_zero _ (Decidable.not_not.1 hf), by omega, by omega⟩
theorem tagB_len (l : List UInt8) (h : tagB l = true) : l.length = 3 := by
  unfold tagB at h
  simp at h
  omega
theorem indsB_len (l : List UInt8) (h : indsB l = true) : l.length = 2 := by
  unfold indsB at h
  simp at h
  omega
theorem bodyL_le : ∀ (L : List Sub), (∀ i, i < L.length → (L.getD i sub0).2.length ≤ 200) → (bodyL L).length ≤ 402 * L.length
  | [], _ => Nat.le_refl _
  | s :: t, h => by
    have h0 := h 0 (by simp)
    have h1 := bodyL_le t (fun i hi => h (i + 1) (by simpa using hi))
    have h2 := dblL_le s.2
    change s.2.length ≤ 200 at h0
    have e : bodyL (s :: t) = subP s ++ bodyL t := by simp [bodyL]
    rw [e, List.length_append, List.length_cons]
    unfold subP
    rw [List.length_cons, List.length_cons]
    omega
end

section
/-- The number that the digits make, and what stands behind it. -/
def authL : List UInt8 → Nat → Nat × List UInt8
  | [], a => (a, [])
  | c :: t, a => if digB c = true ∧ a ≤ 9999 then authL t (a * 10 + (c.toNat - 48)) else (a, c :: t)
/-- A value, and what stands behind it. -/
def valL : List UInt8 → List UInt8 × List UInt8
  | [] => ([], [])
  | [c] => if c ≠ 36 then ([c], []) else ([], [c])
  | c :: d :: t => if c ≠ 36 then (c :: (valL (d :: t)).1, (valL (d :: t)).2) else if d = 36 then (36 :: (valL t).1, (valL t).2) else ([], c :: d :: t)
theorem valL_other (c : UInt8) (l : List UInt8) (h : c ≠ 36) : valL (c :: l) = (c :: (valL l).1, (valL l).2) := by
  cases l with
  | nil =>
    show valL [c] = ([c], [])
    rw [valL, if_pos h]
  | cons d t => rw [valL, if_pos h]
theorem valL_two (t : List UInt8) : valL (36 :: 36 :: t) = (36 :: (valL t).1, (valL t).2) := by
  rw [valL, if_neg (fun h => h rfl), if_pos rfl]
theorem valL_end (l : List UInt8) (h : l = [] ∨ l = [36] ∨ ∃ d t, l = 36 :: d :: t ∧ d ≠ 36) : valL l = ([], l) := by
  rcases h with rfl | rfl | ⟨d, t, rfl, h⟩
  · rfl
  · rw [valL, if_neg (fun h => h rfl)]
  · rw [valL, if_neg (fun h => h rfl), if_neg h]
theorem valL_le : ∀ l : List UInt8, (valL l).2.length ≤ l.length
  | [] => Nat.le_refl _
  | [c] => by rw [valL]; split <;> simp
  | c :: d :: t => by
    have h1 := valL_le (d :: t)
    have h2 := valL_le t
    rw [valL]
    split
    · simp at h1 ⊢; omega
    · split
      · simp; omega
      · simp
def subsF : Nat → List UInt8 → Option (List Sub)
  | _, [] => some []
  | 0, _ :: _ => none
  | _ + 1, [_] => none
  | k + 1, c :: d :: t => if c ≠ 36 then none else (subsF k (valL t).2).map fun L => (d, (valL t).1) :: L
def unB (c : UInt8) : UInt8 := if c = 35 then 32 else c
def authR (l : List UInt8) : Nat × List UInt8 := if l.getD 0 0 = 64 then authL (l.drop 1) 0 else (0, l)
def readL (s : List UInt8) : Option Fld :=
  if s.length < 8 then none
  else if (authR (s.drop 3)).2.length < 4 ∨ (authR (s.drop 3)).2.getD 0 0 ≠ 32 ∨ (authR (s.drop 3)).2.getD 3 0 ≠ 32 then none
  else if (authR (s.drop 3)).2.getD 1 0 = 32 ∨ (authR (s.drop 3)).2.getD 2 0 = 32 then none
  else (subsF s.length ((authR (s.drop 3)).2.drop 4)).map fun L => ⟨s.take 3, [unB ((authR (s.drop 3)).2.getD 1 0), unB ((authR (s.drop 3)).2.getD 2 0)], L, ((authR (s.drop 3)).1 : Nat)⟩
/-- What Parse returns, if it is no error. -/
def parseO (s : List UInt8) : Option Fld :=
  match readL s with
  | none => none
  | some f => if rightI f = 0 ∧ lineL f = s then some f else none
theorem parse_sound (s : List UInt8) (f : Fld) (h : parseO s = some f) : rightI f = 0 ∧ lineL f = s := by
  unfold parseO at h
  split at h
  · cases h
  · split at h
    · cases h; assumption
    · cases h

theorem valL_dbl : ∀ (v r : List UInt8), (r = [] ∨ ∃ d t, r = 36 :: d :: t ∧ d ≠ 36) → valL (dblL v ++ r) = (v, r)
  | [], r, h => valL_end r (by rcases h with h | h; exact .inl h; exact .inr (.inr h))
  | x :: t, r, h => by
    rw [dblL]
    by_cases hx : x = 36
    · rw [if_pos hx, List.cons_append, List.cons_append, valL_two, valL_dbl t r h, hx]
    · rw [if_neg hx, List.cons_append, valL_other x _ hx, valL_dbl t r h]
theorem code_36 (c : UInt8) (h : codeB c = true) : c ≠ 36 := by
  rintro rfl
  exact absurd h (by decide)
theorem body_form (L : List Sub) (h : ∀ i, i < L.length → codeB (L.getD i sub0).1 = true) : bodyL L = [] ∨ ∃ d t, bodyL L = 36 :: d :: t ∧ d ≠ 36 := by
  cases L with
  | nil => exact .inl rfl
  | cons s t => exact .inr ⟨s.1, dblL s.2 ++ bodyL t, by simp [bodyL, subP], code_36 _ (h 0 (by simp))⟩
theorem subs_back : ∀ (L : List Sub) (k : Nat), (bodyL L).length ≤ k → (∀ i, i < L.length → codeB (L.getD i sub0).1 = true) → subsF k (bodyL L) = some L
  | [], k, _, _ => by
    show subsF k [] = _
    cases k <;> rfl
  | s :: t, k, hk, h => by
    have e : bodyL (s :: t) = 36 :: s.1 :: (dblL s.2 ++ bodyL t) := by simp [bodyL, subP]
    have ht : ∀ i, i < t.length → codeB (t.getD i sub0).1 = true := fun i hi => h (i + 1) (by simpa using hi)
    rw [e] at hk ⊢
    cases k with
    | zero => simp at hk
    | succ k =>
      rw [subsF, if_neg (fun h => h rfl), valL_dbl s.2 _ (body_form t ht), subs_back t k (by simp at hk; omega) ht]
      rfl
theorem dig_of (r : Nat) (h : r < 10) : digB (dgt r) = true := by
  rw [digB_iff, dgt_nat r (by omega)]
  omega
theorem auth_digits : ∀ (n : Nat) (r : List UInt8), n ≤ 99999 → authL (Lib.decDigits n ++ r) 0 = authL r n := by
  intro n
  induction n using Nat.strongRecOn with
  | ind n ih =>
    intro r hn
    by_cases h : n < 10
    · rw [dec1 n h]
      show authL (dgt n :: r) 0 = _
      rw [authL, if_pos ⟨dig_of n h, by omega⟩, dgt_nat n (by omega)]
      congr 1
      omega
    · rw [decS n h, List.append_assoc, ih (n / 10) (by omega) _ (by omega)]
      show authL (dgt (n % 10) :: r) (n / 10) = _
      rw [authL, if_pos ⟨dig_of _ (Nat.mod_lt _ (by decide)), by omega⟩, dgt_nat _ (by omega)]
      congr 1
      omega
theorem authR_back (n : Int) (h0 : 0 ≤ n) (h1 : n ≤ 9999) (r : List UInt8) : authR (authP n ++ 32 :: r) = (n.toNat, 32 :: r) := by
  unfold authP
  by_cases h : n = 0
  · subst h
    rfl
  · rw [if_neg h]
    have hp := dec_pos n.toNat
    have e : padL 1 (Lib.decDigits n.toNat) = Lib.decDigits n.toNat := by
      unfold padL
      rw [show 1 - (Lib.decDigits n.toNat).length = 0 by omega]
      rfl
    rw [e]
    show authR (64 :: (Lib.decDigits n.toNat ++ 32 :: r)) = _
    unfold authR
    rw [if_pos (by rfl), List.drop_succ_cons, List.drop_zero, auth_digits _ _ (by omega), authL, if_neg (fun hh => absurd hh.1 (by decide))]
theorem mark_form (c : UInt8) (h : indB c = true) : ∃ d, markB c = [d] ∧ d ≠ 32 ∧ unB d = c := by
  unfold markB
  by_cases h32 : c = 32
  · rw [if_pos h32]
    exact ⟨35, rfl, by decide, by rw [h32]; rfl⟩
  · rw [if_neg h32]
    refine ⟨c, rfl, h32, ?_⟩
    unfold unB
    rw [if_neg]
    rintro rfl
    exact absurd h (by decide)
theorem read_back (f : Fld) (h : rightI f = 0) : readL (lineL f) = some f := by
  obtain ⟨htag, hind, hn1, hn16, hsub, ha0, ha1⟩ := right_facts f h
  have hcode : ∀ i, i < f.subs.length → codeB (f.subs.getD i sub0).1 = true := fun i hi => (subE_zero _ (hsub i hi)).1
  have h3 := tagB_len _ htag
  have h2 := indsB_len _ hind
  obtain ⟨tag, ind, subs, au⟩ := f
  match tag, h3, ind, h2, subs with
  | [t0, t1, t2], _, [i0, i1], _, subs =>
    have hi0 : indB i0 = true := by
      unfold indsB at hind
      simp only [Bool.and_eq_true] at hind
      exact hind.1.2
    have hi1 : indB i1 = true := by
      unfold indsB at hind
      simp only [Bool.and_eq_true] at hind
      exact hind.2
    obtain ⟨d0, m0, n0, u0⟩ := mark_form i0 hi0
    obtain ⟨d1, m1, n1, u1⟩ := mark_form i1 hi1
    have e : lineL ⟨[t0, t1, t2], [i0, i1], subs, au⟩ = [t0, t1, t2] ++ (authP au ++ 32 :: (d0 :: d1 :: 32 :: bodyL subs)) := by
      unfold lineL headL
      show [t0, t1, t2] ++ authP au ++ 32 :: (markB i0 ++ markB i1 ++ [32]) ++ bodyL subs = _
      rw [m0, m1]
      simp
    have hdrop : ([t0, t1, t2] ++ (authP au ++ 32 :: (d0 :: d1 :: 32 :: bodyL subs))).drop 3 = authP au ++ 32 :: (d0 :: d1 :: 32 :: bodyL subs) := rfl
    have htake : ([t0, t1, t2] ++ (authP au ++ 32 :: (d0 :: d1 :: 32 :: bodyL subs))).take 3 = [t0, t1, t2] := rfl
    have hbl : 2 ≤ (bodyL subs).length := by
      cases subs with
      | nil => cases hn1
      | cons s t => simp [bodyL, subP]
    have hlen : ([t0, t1, t2] ++ (authP au ++ 32 :: (d0 :: d1 :: 32 :: bodyL subs))).length = 7 + (authP au).length + (bodyL subs).length := by simp; omega
    have hr := authR_back au ha0 ha1 (d0 :: d1 :: 32 :: bodyL subs)
    have hs := subs_back subs (7 + (authP au).length + (bodyL subs).length) (by omega) hcode
    unfold readL
    rw [e, hdrop, htake, hlen, hr, if_neg (by omega), if_neg, if_neg]
    · show (subsF _ (bodyL subs)).map _ = _
      rw [hs]
      show some (Fld.mk [t0, t1, t2] [unB d0, unB d1] subs ((au.toNat : Nat) : Int)) = _
      rw [u0, u1, Int.toNat_of_nonneg ha0]
    · show ¬ (d0 = 32 ∨ d1 = 32)
      exact fun h => h.elim n0 n1
    · show ¬ ((32 :: d0 :: d1 :: 32 :: bodyL subs).length < 4 ∨ (32 : UInt8) ≠ 32 ∨ (32 : UInt8) ≠ 32)
      simp
theorem parse_back (f : Fld) (h : rightI f = 0) : parseO (lineL f) = some f := by
  unfold parseO
  rw [read_back f h]
  show (if rightI f = 0 ∧ lineL f = lineL f then some f else none) = some f
  rw [if_pos ⟨h, rfl⟩]
theorem line_inj (f g : Fld) (hf : rightI f = 0) (hg : rightI g = 0) (h : lineL f = lineL g) : f = g := by
  have h1 := parse_back f hf
  rw [h, parse_back g hg] at h1
  exact (Option.some.inj h1).symm
end

end Go.Proofs.YtcnjjdbpcobolaaGreatDoor
