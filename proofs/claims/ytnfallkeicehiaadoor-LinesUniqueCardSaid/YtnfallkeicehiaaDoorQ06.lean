/- Merged: R07G. -/
import Derived.Test.YtnfallkeicehiaaDoorQ03
import Derived.Test.YtnfallkeicehiaaDoorQ05
namespace Go.Proofs.YtnfallkeicehiaaDoor

section
open Go.RowKit Go.PlainAid
def subE (s : Sub) : Int := if codeB s.1 = false then 1 else if s.2 = [] then 8 else if validT s.2 = false then 3 else if 200 < s.2.length then 4 else 0
def firstE : List Sub → Int
  | [] => 0
  | s :: t => if subE s ≠ 0 then subE s else firstE t
def indB (x : UInt8) : Bool := decide (x = 32) || digB x
def indsB (l : List UInt8) : Bool := decide (l.length = 2) && indB (l.getD 0 0) && indB (l.getD 1 0)
def rightI (f : Fld) : Int :=
  if tagB f.tag = false then 6 else if indsB f.ind = false then 3 else if f.subs.length = 0 then 8 else if 16 < f.subs.length then 4
  else if firstE f.subs ≠ 0 then firstE f.subs else if f.auth < 0 ∨ 9999 < f.auth then 2 else 0
theorem firstE_hit : ∀ (L : List Sub) (k : Nat), k < L.length → (∀ j, j < k → subE (L.getD j sub0) = 0) → subE (L.getD k sub0) ≠ 0 → firstE L = subE (L.getD k sub0)
  | [], _, hk, _, _ => by cases hk
  | s :: t, 0, _, _, he => by
    have he : subE s ≠ 0 := he
    rw [firstE, if_pos he]
    rfl
  | s :: t, k + 1, hk, h, he => by
    have h0 : subE s = 0 := h 0 (Nat.succ_pos k)
    rw [firstE, if_neg (fun h => h h0)]
    exact firstE_hit t k (by simpa using hk) (fun j hj => h (j + 1) (by omega)) he
theorem firstE_miss : ∀ (L : List Sub), (∀ j, j < L.length → subE (L.getD j sub0) = 0) → firstE L = 0
  | [], _ => rfl
  | s :: t, h => by
    have h0 : subE s = 0 := h 0 (by simp)
    rw [firstE, if_neg (fun h => h h0)]
    exact firstE_miss t (fun j hj => h (j + 1) (by simpa using hj))
end

end Go.Proofs.YtnfallkeicehiaaDoor
