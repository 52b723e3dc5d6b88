/- Merged: Plain13, AL13, R13A. -/
import Derived.Test.YtmcolapcmjdoeaaGreatDoorQ03
import Derived.Test.YtmcolapcmjdoeaaGreatDoorQ01
import Derived.Test.YtmcolapcmjdoeaaGreatDoorQ02
namespace Go.Proofs.YtmcolapcmjdoeaaGreatDoor

section
structure Au where
  id : Int
  kind : Int
  heading : List UInt8
  see : List (List UInt8)
  above : List Int
deriving DecidableEq
def au0 : Au := ⟨0, 0, [], [], []⟩
def hdsX (a : Au) : List (List UInt8) := a.heading :: a.see
/-- The first error of a heading of a kind. -/
def hdE (kind : Int) (x : List UInt8) : Int :=
  if validT x = false ∨ cleanX x ≠ x ∨ normX x = [] ∨ (kind = 3 ∧ gluX dd (partsX x) ≠ x) then 3 else if 200 < x.length ∨ 4 < (partsX x).length then 4 else 0
def firstI (L : List Int) : Int := (L.find? fun e => e != 0).getD 0
/-- The first error of an authority by itself. -/
def shapeI (a : Au) : Int :=
  if a.kind < 1 ∨ 4 < a.kind then 1 else if firstI ((hdsX a).map (hdE a.kind)) ≠ 0 then firstI ((hdsX a).map (hdE a.kind)) else if 8 < a.see.length then 13 else 0
def keysA (a : Au) : List (Int × List UInt8) := (hdsX a).map fun h => (a.kind, normX h)
def keysX (l : List Au) : List (Int × List UInt8) := l.flatMap keysA
def getA (l : List Au) (id : Int) : Option Au := l.find? fun a => a.id == id
def insI : List Int → Int → List Int
  | [], n => [n]
  | x :: r, n => if n < x then n :: x :: r else x :: insI r n
def putI (l : List Int) (n : Int) : List Int := if n ∈ l then l else insI l n
def roundA (l : List Au) (id : Int) (out : List Int) : List Int := l.foldl (fun out a => if a.id ≠ id ∧ a.id ∉ out then out else a.above.foldl putI out) out
def iterA (l : List Au) (id : Int) : Nat → List Int
  | 0 => []
  | k + 1 => roundA l id (iterA l id k)
/-- All above an authority. -/
def aboveA (l : List Au) (id : Int) : List Int := iterA l id (l.length + 1)
/-- All below an authority. -/
def belowA (l : List Au) (id : Int) : List Int := l.foldl (fun out a => if id ∈ aboveA l a.id then putI out a.id else out) []
def ascI : List Int → Bool
  | x :: y :: r => decide (x < y) && ascI (y :: r)
  | _ => true
/-- The first error of an authority's place among the others, from the one before it on. -/
def oneI (before : Option Int) (a : Au) : Int :=
  if a.id < 1 ∨ 9999 < a.id then 2 else if (match before with | some b => decide (a.id ≤ b) | none => false) = true then 7 else shapeI a
def onesI : Option Int → List Au → Int
  | _, [] => 0
  | b, a :: r => if oneI b a ≠ 0 then oneI b a else onesI (some a.id) r
def abvE (l : List Au) (a : Au) : Int :=
  if 4 < a.above.length then 13 else if ascI a.above = false then 7 else if (a.above.all fun n => match getA l n with | some x => decide (x.kind = a.kind) | none => false) = false then 9 else 0
/-- The first error of an authority file. -/
def rightA (l : List Au) : Int :=
  if 64 < l.length then 13 else if onesI none l ≠ 0 then onesI none l else if ¬ (keysX l).Nodup then 7 else
    if firstI (l.map (abvE l)) ≠ 0 then firstI (l.map (abvE l)) else if (l.any fun a => decide (a.id ∈ aboveA l a.id)) = true then 11 else 0
def findK (n : List UInt8) (L : List (List UInt8)) : Option Nat := L.findIdx? fun h => normX h == n
def findR (l : List Au) (kind : Int) (n : List UInt8) : Int × Bool × Bool := match l with
  | [] => (0, false, false)
  | a :: r => if a.kind = kind then match findK n (hdsX a) with
      | some k => (a.id, decide (k = 0), true)
      | none => findR r kind n
    else findR r kind n
/-- The authority that has a heading. -/
def findA (l : List Au) (kind : Int) (h : List UInt8) : Int × Bool × Bool := if normX h = [] then (0, false, false) else findR l kind (normX h)
def checkA (l : List Au) : List Au × Int := if rightA l = 0 then (l, 0) else ([], rightA l)
def insA : List Au → Au → List Au
  | [], a => [a]
  | x :: r, a => if a.id < x.id then a :: x :: r else x :: insA r a
def addA (l : List Au) (a : Au) : List Au × Int := if (getA l a.id).isSome = true then ([], 7) else checkA (insA l a)
def withA (l : List Au) (a : Au) : List Au := l.map fun x => if x.id = a.id then a else x
def woutA (l : List Au) (id : Int) : List Au := l.filter fun x => decide (x.id ≠ id)
def renA (l : List Au) (id : Int) (h : List UInt8) : List Au × Int := match getA l id with
  | none => ([], 9)
  | some a => checkA (withA l { a with heading := h, see := (a.see.filter fun s => decide (normX s ≠ normX h)) ++ (if normX a.heading ≠ normX h then [a.heading] else []) })
def turnA (into gone : Int) (x : Au) : Au := { x with above := x.above.foldl (fun out n => if (if n = gone then into else n) ≠ x.id then putI out (if n = gone then into else n) else out) [] }
def mergeA (l : List Au) (into gone : Int) : List Au × Int := match getA l into, getA l gone with
  | some a, some b => if into = gone ∨ a.kind ≠ b.kind then ([], 1) else checkA ((woutA (withA l { a with see := a.see ++ hdsX b }) gone).map (turnA into gone))
  | _, _ => ([], 9)
def remA (l : List Au) (id : Int) : List Au × Int := match getA l id with
  | none => ([], 9)
  | some _ => if (l.any fun a => decide (id ∈ a.above)) = true then ([], 10) else (woutA l id, 0)
def setA (l : List Au) (id : Int) (above : List Int) : List Au × Int := match getA l id with
  | none => ([], 9)
  | some a => checkA (withA l { a with above := above })
def smallA (l : List Au) : Bool := decide (l.length ≤ 30) && l.all fun a => decide ((hdsX a).length ≤ 12) && decide (a.above.length ≤ 8) && (hdsX a).all fun h => decide (h.length ≤ 260)

/-! The examples. -/
def animals : List Au := [⟨1, 3, [65, 110, 105, 109, 97, 108, 115], [], []⟩, ⟨2, 3, [68, 111, 103, 115], [[72, 111, 117, 110, 100, 115]], [1]⟩]
theorem an_right : rightA animals = 0 := by decide +kernel
theorem an_find : findA animals 3 [104, 111, 117, 110, 100, 115] = (2, false, true) := by decide +kernel
theorem an_find2 : findA animals 3 [68, 79, 71, 83] = (2, true, true) := by decide +kernel
theorem an_ren : renA animals 2 [72, 111, 117, 110, 100, 115] = ([⟨1, 3, [65, 110, 105, 109, 97, 108, 115], [], []⟩, ⟨2, 3, [72, 111, 117, 110, 100, 115], [[68, 111, 103, 115]], [1]⟩], 0) := by decide +kernel
theorem an_rem : remA animals 1 = ([], 10) := by decide +kernel
theorem an_set : setA animals 1 [2] = ([], 11) := by decide +kernel
theorem an_add : addA animals ⟨3, 3, [100, 111, 103, 115], [], []⟩ = ([], 7) := by decide +kernel
theorem an_above : aboveA animals 2 = [1] := by decide +kernel
theorem an_below : belowA animals 1 = [2] := by decide +kernel
end

section
open Go.RowKit Go.PlainAid
/-- An authority's value, with the values of its two slices. -/
def AV (a : Au) (s t : Value) : Value := .agg #[.int .i64 a.id, .int .i64 a.kind, .string (S a.heading), s, t]
/-- The two slices of an authority. -/
def AN (a : Au) (s t : Value) (w : World) : Prop := BL s a.see w ∧ IL t a.above w
theorem AN.after {a : Au} {s t : Value} {w w' : World} (h : AN a s t w) (hb : Below w.heap.size w w') : AN a s t w' := ⟨h.1.after hb, h.2.after hb⟩
/-- A slice of these authorities. -/
def AL (v : Value) (L : List Au) (w : World) : Prop :=
  ∃ a cap, v = .slice a L.length cap ∧ L.length ≤ cap ∧ cap ≤ maxLen ∧ (a = none → cap = 0) ∧ ∀ i, i < L.length → ∃ g o s t, a = some ⟨g, o, none⟩ ∧ g < w.heap.size ∧
    w.cell? ⟨g, o + i * 5, none⟩ = some (.int .i64 (L.getD i au0).id) ∧ w.cell? ⟨g, o + i * 5 + 1, none⟩ = some (.int .i64 (L.getD i au0).kind) ∧ w.cell? ⟨g, o + i * 5 + 2, none⟩ = some (.string (S (L.getD i au0).heading)) ∧
    w.cell? ⟨g, o + i * 5 + 3, none⟩ = some s ∧ w.cell? ⟨g, o + i * 5 + 4, none⟩ = some t ∧ AN (L.getD i au0) s t w
theorem AL.nil (w : World) : AL (.slice none 0 0) [] w := ⟨none, 0, rfl, Nat.le_refl _, Nat.zero_le _, fun _ => rfl, fun i hi => by cases hi⟩
theorem AL.after {v : Value} {L : List Au} {w w' : World} (h : AL v L w) (hb : Below w.heap.size w w') : AL v L w' := by
  obtain ⟨a, cap, rfl, hc, hm, hn, hx⟩ := h
  refine ⟨a, cap, rfl, hc, hm, hn, fun i hi => ?_⟩
  obtain ⟨g, o, s, t, rfl, hg, h0, h1, h2, h3, h4, hq⟩ := hx i hi
  exact ⟨g, o, s, t, rfl, Nat.lt_of_lt_of_le hg hb.size, (hb.cell (p := ⟨g, o + i * 5, none⟩) hg).trans h0, (hb.cell (p := ⟨g, o + i * 5 + 1, none⟩) hg).trans h1,
    (hb.cell (p := ⟨g, o + i * 5 + 2, none⟩) hg).trans h2, (hb.cell (p := ⟨g, o + i * 5 + 3, none⟩) hg).trans h3, (hb.cell (p := ⟨g, o + i * 5 + 4, none⟩) hg).trans h4, hq.after hb⟩
theorem AL.length {v : Value} {L : List Au} {w : World} (h : AL v L w) : ∃ a cap, v = .slice a L.length cap ∧ L.length ≤ cap ∧ cap ≤ maxLen := by
  obtain ⟨a, cap, h1, h2, h3, _⟩ := h
  exact ⟨a, cap, h1, h2, h3⟩
theorem AL.at {v : Value} {L : List Au} {w : World} (h : AL v L w) (k : Nat) (hk : k < L.length) : ∃ g o cap s t, v = .slice (some ⟨g, o, none⟩) L.length cap ∧ g < w.heap.size ∧
    w.cell? ⟨g, o + k * 5, none⟩ = some (.int .i64 (L.getD k au0).id) ∧ w.cell? ⟨g, o + k * 5 + 1, none⟩ = some (.int .i64 (L.getD k au0).kind) ∧ w.cell? ⟨g, o + k * 5 + 2, none⟩ = some (.string (S (L.getD k au0).heading)) ∧
    w.cell? ⟨g, o + k * 5 + 3, none⟩ = some s ∧ w.cell? ⟨g, o + k * 5 + 4, none⟩ = some t ∧ AN (L.getD k au0) s t w := by
  obtain ⟨a, cap, rfl, hc, hm, hn, hx⟩ := h
  obtain ⟨g, o, s, t, rfl, hh⟩ := hx k hk
  exact ⟨g, o, cap, s, t, rfl, hh⟩
end

section
open Go.RowKit Go.PlainAid
theorem IL.at13 {v : Value} {l : List Int} {w : World} (h : IL v l w) (k : Nat) (hk : k < l.length) : ∃ g o cap, v = .slice (some ⟨g, o, none⟩) l.length cap ∧ g < w.heap.size ∧ w.cell? ⟨g, o + k, none⟩ = some (.int .i64 (l.getD k 0)) := by
  obtain ⟨a, cap, rfl, hc, hi⟩ := h
  obtain ⟨g, o, rfl, hg, h2⟩ := hi k l[k] (List.getElem?_eq_getElem hk)
  exact ⟨g, o, cap, rfl, hg, by rw [h2, List.getD_eq_getElem?_getD, List.getElem?_eq_getElem hk]; rfl⟩
set_option maxHeartbeats 8000000 in
theorem refHas_any (v : Value) (l : List Int) (x : Int) (w : World) (hv : IL v l w) (hz : l.length ≤ 1000000) :
    Calls Tryz.prog 32 #[v, .int .i64 x] w fun e w' => e = .returned (.bool (decide (x ∈ l))) ∧ w' = w := by
  obtain ⟨b, hb⟩ : ∃ b, decide (x ∈ l) = b := ⟨_, rfl⟩
  rw [hb]
  have HT : RowKit.Hid (x ∈ l → b = true) := fun h => by rw [← hb]; exact decide_eq_true h
  have HF : RowKit.Hid (x ∉ l → b = false) := fun h => by rw [← hb]; exact decide_eq_false h
  have HV := Lib.hid hv
  obtain ⟨a, cap, rfl, hc, -⟩ := hv
  obtain ⟨n, hn⟩ : ∃ n, l.length = n := ⟨_, rfl⟩
  have HN := Lib.hid hn
  rw [hn] at HV hc hz ⊢
  clear hb hn
  go_enter Tryz.func32, Tryz.ntmps32
  go_wp2
  go_loopw [5] (fun i wr => ∃ k : Nat, i = .int .i64 (k : Int) ∧ k ≤ n ∧ RowKit.Hid (∀ j, j < k → l.getD j 0 ≠ x) ∧ w = wr) (fun i _ => n - (intOf i).toNat)
  case atStart => exact ⟨0, rfl, Nat.zero_le _, (fun j hj => by omega), rfl⟩
  case round =>
    obtain ⟨k, rfl, hk, HJ, rfl⟩ := hrel
    by_cases hkn : k < n
    · have i1 : (0 : Int) ≤ (k : Int) := by omega
      have i2 : (k : Int) < (n : Int) := by omega
      obtain ⟨g, o, cap', he, hg, c0⟩ := HV.out.at13 k (by rw [HN.out]; exact hkn)
      obtain ⟨rfl, -, hcp⟩ := Value.slice.inj he
      by_cases hx : l.getD k 0 = x
      · have hm : b = true := HT.out (by
          rw [← hx, List.getD_eq_getElem?_getD, List.getElem?_eq_getElem (by rw [HN.out]; exact hkn)]
          exact List.getElem_mem _)
        subst hm
        rw [hx] at c0
        clear HT HF HJ he hcp hx
        go_wp2
        go_ret
        exact ⟨rfl, rfl⟩
      · have HJ2 : RowKit.Hid (∀ j, j < k + 1 → l.getD j 0 ≠ x) := by
          intro j hj
          rcases Nat.lt_or_ge j k with h | h
          · exact HJ.out j h
          · rw [show j = k by omega]; exact hx
        have t0 : (l.getD k 0 == x) = false := by simpa using hx
        clear HT HF HJ he hcp hx
        generalize l.getD k 0 = y at *
        go_wp2
        go_roundw
        case rel => first | exact ⟨k + 1, by go_num, by omega, HJ2.out, rfl⟩ | exact ⟨k + 1, by go_num, by omega, HJ2.out, trivial⟩
        case measure => simp [intOf]; omega
    · obtain rfl : k = n := by omega
      have hm : b = false := HF.out (by
        intro h
        obtain ⟨j, hj, e⟩ := List.mem_iff_getElem.1 h
        have h2 := HJ.out j (by rw [← HN.out]; exact hj)
        rw [List.getD_eq_getElem?_getD, List.getElem?_eq_getElem hj] at h2
        exact h2 e)
      subst hm
      clear HT HF HJ
      go_wp2
      go_ret
      exact ⟨rfl, rfl⟩
end

end Go.Proofs.YtmcolapcmjdoeaaGreatDoor
