/- Plain words of layer 7: fields. No program is named here. -/
import Derived.Test.YtjfdolmcecgdgaaDoorByS
namespace Go.Proofs.YtjfdolmcecgdgaaDoor

def digB (x : UInt8) : Bool := decide (48 ≤ x.toNat) && decide (x.toNat ≤ 57)
theorem digB_iff (x : UInt8) : digB x = true ↔ 48 ≤ x.toNat ∧ x.toNat ≤ 57 := by simp [digB]
def codeB (x : UInt8) : Bool := digB x || (decide (97 ≤ x.toNat) && decide (x.toNat ≤ 122))
/-- Three digits, from 010 on. -/
def tagB (l : List UInt8) : Bool := decide (l.length = 3) && digB (l.getD 0 0) && digB (l.getD 1 0) && digB (l.getD 2 0) && !(decide (l.getD 0 0 = 48) && decide (l.getD 1 0 = 48))
abbrev Sub := UInt8 × List UInt8
structure Fld where
  tag : List UInt8
  ind : List UInt8
  subs : List Sub
  auth : Int
def sub0 : Sub := (0, [])
/-- The values of the subfields that a code picks. -/
def inB (c : UInt8) (codes : List UInt8) : Bool := codes.any (fun x => decide (x = c)) || decide (codes = [])
def allL (subs : List Sub) (codes : List UInt8) : List (List UInt8) := (subs.filter fun s => inB s.1 codes).map (·.2)
theorem allL_snoc (L : List Sub) (codes : List UInt8) (k : Nat) (h : k < L.length) : allL (L.take (k + 1)) codes = allL (L.take k) codes ++ (if inB (L.getD k sub0).1 codes = true then [(L.getD k sub0).2] else []) := by
  rw [List.take_succ_eq_append_getElem h, List.getD_eq_getElem?_getD, List.getElem?_eq_getElem h]
  unfold allL
  rw [List.filter_append, List.map_append]
  congr 1
  show _ = if inB L[k].1 codes = true then [L[k].2] else []
  by_cases hi : inB L[k].1 codes = true
  · rw [if_pos hi]; simp [hi]
  · rw [if_neg hi]; simp [hi]
theorem allL_length (L : List Sub) (codes : List UInt8) : (allL L codes).length ≤ L.length := by
  unfold allL
  rw [List.length_map]
  exact List.length_filter_le _ _
def getL : List Sub → UInt8 → List UInt8 × Bool
  | [], _ => ([], false)
  | s :: t, c => if s.1 = c then (s.2, true) else getL t c
theorem getL_hit : ∀ (L : List Sub) (c : UInt8) (k : Nat), k < L.length → (∀ j, j < k → (L.getD j sub0).1 ≠ c) → (L.getD k sub0).1 = c → getL L c = ((L.getD k sub0).2, true)
  | [], _, _, hk, _, _ => by cases hk
  | s :: t, c, 0, _, _, he => by
    have he : s.1 = c := he
    rw [getL, if_pos he]
    rfl
  | s :: t, c, k + 1, hk, h, he => by
    have h0 : ¬ s.1 = c := h 0 (Nat.succ_pos k)
    rw [getL, if_neg h0]
    exact getL_hit t c k (by simpa using hk) (fun j hj => h (j + 1) (by omega)) he
theorem getL_miss : ∀ (L : List Sub) (c : UInt8), (∀ j, j < L.length → (L.getD j sub0).1 ≠ c) → getL L c = ([], false)
  | [], _, _ => rfl
  | s :: t, c, h => by
    have h0 : ¬ s.1 = c := h 0 (by simp)
    rw [getL, if_neg h0]
    exact getL_miss t c (fun j hj => h (j + 1) (by simpa using hj))
def setL (subs : List Sub) (c : UInt8) (v : List UInt8) : List Sub :=
  if v = [] then subs.filter fun s => decide (s.1 ≠ c)
  else match subs.findIdx? (fun s => decide (s.1 = c)) with
    | some i => subs.set i (c, v)
    | none => subs ++ [(c, v)]
end Go.Proofs.YtjfdolmcecgdgaaDoor
