/- Plain mathematics of layer 5: check digits. -/
import Derived.Test.YtnbjgkhngolhfaaDoorByS
namespace Go.Proofs.YtnbjgkhngolhfaaDoor

def addN (f : Nat → Nat) : Nat → Nat
  | 0 => 0
  | n + 1 => addN f n + f n
theorem addN_congr {f g : Nat → Nat} : ∀ n, (∀ i, i < n → f i = g i) → addN f n = addN g n
  | 0, _ => rfl
  | n + 1, h => by
    simp only [addN]
    rw [addN_congr n (fun i hi => h i (by omega)), h n (by omega)]
theorem addN_le (f : Nat → Nat) (c : Nat) : ∀ n, (∀ i, i < n → f i ≤ c) → addN f n ≤ n * c
  | 0, _ => by simp [addN]
  | n + 1, h => by
    have := addN_le f c n (fun i hi => h i (by omega))
    have := h n (by omega)
    simp only [addN, Nat.succ_mul]
    omega
theorem addN_front (f : Nat → Nat) (n : Nat) : addN f (n + 1) = f 0 + addN (fun i => f (i + 1)) n := by
  induction n with
  | zero => simp [addN]
  | succ n ih => rw [addN, ih, addN]; omega

/-- Whether a byte is a digit. -/
def digB (x : UInt8) : Bool := decide (48 ≤ x.toNat) && decide (x.toNat ≤ 57)
/-- The digit at a place. -/
def dv (l : List UInt8) (i : Nat) : Nat := (l.getD i 0).toNat - 48
theorem digB_iff (x : UInt8) : digB x = true ↔ 48 ≤ x.toNat ∧ x.toNat ≤ 57 := by simp [digB]
theorem dv_le (l : List UInt8) (i : Nat) (h : digB (l.getD i 0) = true) : dv l i ≤ 9 ∧ (l.getD i 0).toNat = 48 + dv l i := by
  rw [digB_iff] at h
  unfold dv
  omega
/-- The sum of the digits of a digit's double. -/
def dbl (d : Nat) : Nat := 2 * d / 10 + 2 * d % 10
theorem dbl_le (d : Nat) (h : d ≤ 9) : dbl d ≤ 9 := by unfold dbl; omega
def lw (i d : Nat) : Nat := if i % 2 = 0 then dbl d else d
theorem lw_le (i d : Nat) (h : d ≤ 9) : lw i d ≤ 9 := by
  unfold lw
  split
  · exact dbl_le d h
  · exact h
/-- The sum that the check digit completes. -/
def luhnS (l : List UInt8) : Nat := addN (fun i => lw i (dv l (l.length - 1 - i))) l.length
def comp (s : Nat) : Nat := (10 - s % 10) % 10
def luhnC (l : List UInt8) : Nat := comp (luhnS l)
theorem comp_le (s : Nat) : comp s ≤ 9 := by unfold comp; omega
/-- The alternating sum; the weighted sum. -/
def altS (l : List UInt8) : Nat := addN (fun i => if i % 2 = 1 then 3 * dv l i else dv l i) l.length
def wd (x : UInt8) : Nat := if x = 88 then 10 else x.toNat - 48
def wS (l : List UInt8) : Nat := addN (fun i => wd (l.getD i 0) * (l.length - i)) l.length
/-- Digits, of which the last one can be X. -/
def endedB (l : List UInt8) : Bool := decide (1 ≤ l.length) && (l.take (l.length - 1)).all digB && (digB (l.getD (l.length - 1) 0) || decide (l.getD (l.length - 1) 0 = 88))
def keep (x : UInt8) : Bool := decide (x ≠ 45) && decide (x ≠ 32)
def removed (l : List UInt8) : List UInt8 := l.filter keep
/-- The last k digits of a number. -/
def digU (n : Nat) : Nat → List UInt8
  | 0 => []
  | k + 1 => dgt (n / 10 ^ k % 10) :: digU n k
theorem digU_length (n k : Nat) : (digU n k).length = k := by
  induction k with
  | zero => rfl
  | succ k ih => simp [digU, ih]
/-- The barcode. -/
def mkB (k n : Nat) : List UInt8 := dgt k :: digU n 12
def mkL (k n : Nat) : List UInt8 := mkB k n ++ [dgt (luhnC (mkB k n))]
/-- The number that digits say. -/
def valL (l : List UInt8) (a : Nat) : Nat → Nat
  | 0 => 0
  | k + 1 => valL l a k * 10 + dv l (a + k)

def luhnI (l : List UInt8) : Int × Int := if 1 ≤ l.length ∧ l.length ≤ 20 ∧ l.all digB = true then ((luhnC l : Nat), 0) else (0, 3)
def makeI (k n : Int) : List UInt8 × Int := if k = 2 ∨ k = 3 then (if 0 ≤ n ∧ n ≤ 9999 then (mkL k.toNat n.toNat, 0) else ([], 2)) else ([], 1)
def formB (l : List UInt8) : Bool := decide (l.length = 14) && l.all digB && (decide (l.getD 0 0 = 50) || decide (l.getD 0 0 = 51))
def parseI (l : List UInt8) : Int × Int × Int :=
  if formB l = true then (if luhnC (l.take 13) = dv l 13 then (if valL l 1 12 ≤ 9999 then ((dv l 0 : Nat), (valL l 1 12 : Nat), 0) else (0, 0, 2)) else (0, 0, 5)) else (0, 0, 3)
def isbnT (t : List UInt8) : List UInt8 × Int :=
  if t.length = 13 ∧ t.all digB = true ∧ (t.take 3 = [57, 55, 56] ∨ t.take 3 = [57, 55, 57]) then (if altS t % 10 = 0 then (t, 0) else ([], 5))
  else if t.length = 10 ∧ endedB t = true then (if wS t % 11 = 0 then ([57, 55, 56] ++ t.take 9 ++ [dgt (comp (altS ([57, 55, 56] ++ t.take 9)))], 0) else ([], 5)) else ([], 3)
def isbnI (l : List UInt8) : List UInt8 × Int := isbnT (removed l)
def issnT (t : List UInt8) : List UInt8 × Int :=
  if t.length = 8 ∧ endedB t = true then (if wS t % 11 = 0 then (t.take 4 ++ [45] ++ t.drop 4, 0) else ([], 5)) else ([], 3)
def issnI (l : List UInt8) : List UInt8 × Int := issnT (if l.length = 9 ∧ l.getD 4 0 = 45 then l.take 4 ++ l.drop 5 else l)
end Go.Proofs.YtnbjgkhngolhfaaDoor
