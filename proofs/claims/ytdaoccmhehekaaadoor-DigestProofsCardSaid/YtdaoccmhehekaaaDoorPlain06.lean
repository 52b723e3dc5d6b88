/- Plain mathematics of layer 6: digests, levels of a list, proofs. No program is named here. -/
import Derived.Test.YtdaoccmhehekaaaDoorByS
namespace Go.Proofs.YtdaoccmhehekaaaDoor

/-! The digest of a text. -/
def two64 : Nat := 18446744073709551616
/-- The character of a hexadecimal digit. -/
def hx (r : Nat) : UInt8 := if r < 10 then UInt8.ofNat (48 + r) else UInt8.ofNat (87 + r)
theorem hx_nat (r : Nat) (h : r < 16) : (hx r).toNat = if r < 10 then 48 + r else 87 + r := by
  unfold hx
  split
  · rw [UInt8.toNat_ofNat']; omega
  · rw [UInt8.toNat_ofNat']; omega
/-- The last k hexadecimal digits of a number. -/
def hexU (n : Nat) : Nat → List UInt8
  | 0 => []
  | k + 1 => hx (n / 16 ^ k % 16) :: hexU n k
theorem hexU_length (n k : Nat) : (hexU n k).length = k := by
  induction k with
  | zero => rfl
  | succ k ih => simp [hexU, ih]
def hstep (h : Nat) (b : UInt8) : Nat := (h ^^^ b.toNat) * 1099511628211 % 18446744073709551616
def hfold (l : List UInt8) : Nat := l.foldl hstep 14695981039346656037
theorem hstep_lt (h : Nat) (b : UInt8) : hstep h b < 18446744073709551616 := by unfold hstep; omega
theorem hfold_snoc (l : List UInt8) (b : UInt8) : hfold (l ++ [b]) = hstep (hfold l) b := by
  unfold hfold
  generalize 14695981039346656037 = h0
  rw [List.foldl_append, List.foldl_cons, List.foldl_nil]
theorem hfold_lt (l : List UInt8) : hfold l < 18446744073709551616 := by
  rcases List.eq_nil_or_concat l with rfl | ⟨t, x, rfl⟩
  · unfold hfold; simp
  · rw [show t.concat x = t ++ [x] by simp, hfold_snoc]; exact hstep_lt _ _
def mx (h : Nat) : Nat := h ^^^ h / 8589934592
theorem mx_lt (h : Nat) (hh : h < 18446744073709551616) : mx h < 18446744073709551616 :=
  Nat.xor_lt_two_pow (n := 64) hh (Nat.lt_of_le_of_lt (Nat.div_le_self _ _) hh)
def mul1 (h : Nat) : Nat := h * 18397679294719823053 % 18446744073709551616
def mul2 (h : Nat) : Nat := h * 14181476777654086739 % 18446744073709551616
theorem mul1_lt (h : Nat) : mul1 h < 18446744073709551616 := by unfold mul1; omega
theorem mul2_lt (h : Nat) : mul2 h < 18446744073709551616 := by unfold mul2; omega
def fin (h : Nat) : Nat := mx (mul2 (mx (mul1 (mx h))))
theorem fin_lt (h : Nat) : fin h < 18446744073709551616 := mx_lt _ (mul2_lt _)
def sumN6 (l : List UInt8) : Nat := fin (hfold l)
def sumL (l : List UInt8) : List UInt8 := hexU (sumN6 l) 16
theorem sumL_length (l : List UInt8) : (sumL l).length = 16 := hexU_length _ _
def joinL (a b : List UInt8) : List UInt8 := sumL (49 :: (a ++ b))
def leafL (x : List UInt8) : List UInt8 := sumL (48 :: x)

/-! What is a digest. -/
def hexB (x : UInt8) : Bool := (decide (48 ≤ x.toNat) && decide (x.toNat ≤ 57)) || (decide (97 ≤ x.toNat) && decide (x.toNat ≤ 102))
theorem hexB_iff (x : UInt8) : hexB x = true ↔ (48 ≤ x.toNat ∧ x.toNat ≤ 57) ∨ (97 ≤ x.toNat ∧ x.toNat ≤ 102) := by simp [hexB]
def rightB (l : List UInt8) : Bool := decide (l.length = 16) && l.all hexB
theorem hx_hexB (r : Nat) (h : r < 16) : hexB (hx r) = true := by
  rw [hexB_iff, hx_nat r h]
  split <;> omega
theorem hexU_all (n k : Nat) : (hexU n k).all hexB = true := by
  induction k with
  | zero => rfl
  | succ k ih =>
    simp only [hexU, List.all_cons, ih, Bool.and_true]
    exact hx_hexB _ (Nat.mod_lt _ (by decide))
theorem sumL_right (l : List UInt8) : rightB (sumL l) = true := by
  unfold rightB
  rw [decide_eq_true (sumL_length l), Bool.true_and]
  exact hexU_all _ _

/-! The levels of a list. -/
/-- The digest above the places 2 j and 2 j + 1. -/
def node (m : List (List UInt8)) (j : Nat) : List UInt8 := if 2 * j + 1 < m.length then joinL (m.getD (2 * j) []) (m.getD (2 * j + 1) []) else m.getD (2 * j) []
def nextL (m : List (List UInt8)) : List (List UInt8) := (List.range ((m.length + 1) / 2)).map (node m)
theorem nextL_length (m : List (List UInt8)) : (nextL m).length = (m.length + 1) / 2 := by simp [nextL]
theorem nextL_at (m : List (List UInt8)) (j : Nat) (h : j < (m.length + 1) / 2) : (nextL m).getD j [] = node m j := by
  rw [List.getD_eq_getElem?_getD]
  simp [nextL, h]
def leaves (l : List (List UInt8)) : List (List UInt8) := l.map leafL
theorem leaves_length (l : List (List UInt8)) : (leaves l).length = l.length := by simp [leaves]
def topF : Nat → List (List UInt8) → List UInt8
  | 0, m => m.getD 0 []
  | f + 1, m => if m.length ≤ 1 then m.getD 0 [] else topF f (nextL m)
def rootL (l : List (List UInt8)) : List UInt8 := if l.length = 0 then sumL [] else topF l.length (leaves l)
/-- The neighbour of a place, if it has one. -/
def sib (m : List (List UInt8)) (i : Nat) : List (List UInt8) := if i % 2 = 1 then [m.getD (i - 1) []] else if i + 1 < m.length then [m.getD (i + 1) []] else []
def proofF : Nat → List (List UInt8) → Nat → List (List UInt8)
  | 0, _, _ => []
  | f + 1, m, i => if m.length ≤ 1 then [] else sib m i ++ proofF f (nextL m) (i / 2)
def proofL (l : List (List UInt8)) (i : Nat) : List (List UInt8) := proofF l.length (leaves l) i
/-- What a proof leads to; nothing if it has too many neighbours or too few. -/
def climb : Nat → List UInt8 → Nat → Nat → List (List UInt8) → Option (List UInt8)
  | 0, d, _, _, p => if p = [] then some d else none
  | f + 1, d, i, n, p =>
    if n ≤ 1 then (if p = [] then some d else none)
    else if i % 2 = 1 then (if p = [] then none else climb f (joinL (p.headD []) d) (i / 2) ((n + 1) / 2) p.tail)
    else if i + 1 < n then (if p = [] then none else climb f (joinL d (p.headD [])) (i / 2) ((n + 1) / 2) p.tail)
    else climb f d (i / 2) ((n + 1) / 2) p
def checkB (root leaf : List UInt8) (i n : Int) (p : List (List UInt8)) : Bool :=
  decide (1 ≤ n ∧ n ≤ 4096 ∧ 0 ≤ i ∧ i < n) && decide (climb 4096 (leafL leaf) i.toNat n.toNat p = some root)

/-! More steps than are needed change nothing. -/
theorem top_more : ∀ f g m, m.length ≤ f + 1 → m.length ≤ g + 1 → topF f m = topF g m
  | 0, 0, m, _, _ => rfl
  | 0, g + 1, m, h, _ => by rw [topF, topF, if_pos (by omega)]
  | f + 1, 0, m, _, h => by rw [topF, topF, if_pos (by omega)]
  | f + 1, g + 1, m, h1, h2 => by
    rw [topF, topF]
    by_cases h : m.length ≤ 1
    · rw [if_pos h, if_pos h]
    · rw [if_neg h, if_neg h]
      exact top_more f g _ (by rw [nextL_length]; omega) (by rw [nextL_length]; omega)
theorem top_step (f : Nat) (m : List (List UInt8)) (h : 1 < m.length) (hf : m.length ≤ f + 1) : topF f m = topF f (nextL m) := by
  have e : topF (f + 1) m = topF f (nextL m) := by rw [topF, if_neg (by omega)]
  rw [← e]
  exact top_more _ _ _ hf (by omega)
theorem top_one (f : Nat) (m : List (List UInt8)) (h : m.length ≤ 1) : topF f m = m.getD 0 [] := by
  cases f with
  | zero => rfl
  | succ f => rw [topF, if_pos h]
theorem proof_more : ∀ f g m i, m.length ≤ f + 1 → m.length ≤ g + 1 → proofF f m i = proofF g m i
  | 0, 0, m, i, _, _ => rfl
  | 0, g + 1, m, i, h, _ => by rw [proofF, proofF, if_pos (by omega)]
  | f + 1, 0, m, i, _, h => by rw [proofF, proofF, if_pos (by omega)]
  | f + 1, g + 1, m, i, h1, h2 => by
    rw [proofF, proofF]
    by_cases h : m.length ≤ 1
    · rw [if_pos h, if_pos h]
    · rw [if_neg h, if_neg h]
      rw [proof_more f g _ _ (by rw [nextL_length]; omega) (by rw [nextL_length]; omega)]
theorem proof_step (f : Nat) (m : List (List UInt8)) (i : Nat) (h : 1 < m.length) (hf : m.length ≤ f + 1) : proofF f m i = sib m i ++ proofF f (nextL m) (i / 2) := by
  have e : proofF (f + 1) m i = sib m i ++ proofF f (nextL m) (i / 2) := by rw [proofF, if_neg (by omega)]
  rw [← e]
  exact proof_more _ _ _ _ hf (by omega)
theorem proof_one (f : Nat) (m : List (List UInt8)) (i : Nat) (h : m.length ≤ 1) : proofF f m i = [] := by
  cases f with
  | zero => rfl
  | succ f => rw [proofF, if_pos h]
theorem climb_more : ∀ f g d i n p, n ≤ f + 1 → n ≤ g + 1 → climb f d i n p = climb g d i n p
  | 0, 0, d, i, n, p, _, _ => rfl
  | 0, g + 1, d, i, n, p, h, _ => by rw [climb, climb, if_pos (show n ≤ 1 by omega)]
  | f + 1, 0, d, i, n, p, _, h => by rw [climb, climb, if_pos (show n ≤ 1 by omega)]
  | f + 1, g + 1, d, i, n, p, h1, h2 => by
    rw [climb, climb]
    by_cases h : n ≤ 1
    · rw [if_pos h, if_pos h]
    · rw [if_neg h, if_neg h]
      have hs : (n + 1) / 2 ≤ f + 1 ∧ (n + 1) / 2 ≤ g + 1 := by omega
      rw [climb_more f g (joinL (p.headD []) d) _ _ p.tail hs.1 hs.2, climb_more f g (joinL d (p.headD [])) _ _ p.tail hs.1 hs.2, climb_more f g d _ _ p hs.1 hs.2]
end Go.Proofs.YtdaoccmhehekaaaDoor
